/-
  ring.New[string] and (*Ring[string]).Send by their contracts.
-/
import Derived.Test.YtgkiekidmadabaaStGrow
namespace Go.Proofs.Ytgkiekidmadabaa
open Go.RowKit Go.Shelf
theorem new_any_s (k : Int) (w : World) : Calls Try.prog 21 #[.int .i64 k] w fun e B => e = .returned (.pointer (some ⟨w.heap.size, 0, none⟩)) ∧ RingS B w.heap.size 0 0 0 none [] (roomOf k) ∧ Below w.heap.size w B := by
  have key : ∀ z : Int, z = roomOf k → RingS (w.alloc (.cells #[.slice none 0 0, .int .i64 0, .int .i64 0, .int .i64 z] 71)) w.heap.size 0 0 0 none [] (roomOf k) := fun z hz => by
    subst hz
    exact ⟨World.alloc_heap_new _ _, by simp, by simp, roomOf_le k, fun _ => rfl, fun h => by omega⟩
  have K := Lib.hid key
  clear key
  by_cases h1 : k < 0
  · go_enter Try.func21, Try.ntmps21
    go_wp2
    go_ret
    exact ⟨rfl, K.out _ (by unfold roomOf; omega), (Below.refl _ _).alloc (Nat.le_refl _) _⟩
  · by_cases h2 : k ≤ 65536
    · go_enter Try.func21, Try.ntmps21
      go_wp2
      go_ret
      exact ⟨rfl, K.out _ (by unfold roomOf; omega), (Below.refl _ _).alloc (Nat.le_refl _) _⟩
    · go_enter Try.func21, Try.ntmps21
      go_wp2
      go_ret
      exact ⟨rfl, K.out _ (by unfold roomOf; omega), (Below.refl _ _).alloc (Nat.le_refl _) _⟩
theorem send_none_s (w : World) (x : ByteArray) : Calls Try.prog 22 #[.pointer none, .string x] w fun e B => e = .returned (.bool false) ∧ ∃ m, B = w.drewN m := by
  go_enter Try.func22, Try.ntmps22
  go_wp2_with fail
  go_quiet (fail)
  go_wp2
  go_ret
  exact ⟨rfl, _, rfl⟩
theorem send_full_s {w : World} {r s n f : Nat} {a : Option Addr} {xs : List ByteArray} {room : Nat} (h : RingS w r s n f a xs room) (hf : xs.length = room) (x : ByteArray) : Calls Try.prog 22 #[.pointer (some ⟨r, 0, none⟩), .string x] w fun e B => e = .returned (.bool false) ∧ ∃ m, B = w.drewN m := by
  have c2 := h.c2
  have c3 := h.c3
  rw [hf] at c2
  clear h hf
  go_enter Try.func22, Try.ntmps22
  go_wp2_with fail
  go_quiet (fail)
  go_wp2
  go_ret
  exact ⟨rfl, _, rfl⟩
/-- what is left when x was put behind xs. -/
theorem Ring.put_s {w : World} {r s n f : Nat} {a : Option Addr} {xs : List ByteArray} {room : Nat} (h : RingS w r s n f a xs room) (hx : xs.length < n) (x : ByteArray) (c : Int) (hc : c = ((xs.length + 1 : Nat) : Int)) :
    RingS ((w.setCell ⟨s, (f + xs.length) % n, none⟩ (.string x)).setCell ⟨r, 2, none⟩ (.int .i64 c)) r s n f a (xs ++ [x]) room ∧ Keep (fun k => ¬ foot r s n k) w ((w.setCell ⟨s, (f + xs.length) % n, none⟩ (.string x)).setCell ⟨r, 2, none⟩ (.int .i64 c)) := by
  subst hc
  have hn : 0 < n := by omega
  obtain ⟨h1, h2, h3, arr, h4, h5, h6⟩ := h.full hn
  refine ⟨⟨?_, by simp; omega, h.most, h.lid, h.bare, fun _ => ⟨h1, h2, h3, _, heap_set_other (heap_set h4 _ _) h3 _ _, by simp [h5], fun i hi => ?_⟩⟩, (Keep.setCell _ _ _ fun hk => hk (.inr ⟨hn, rfl⟩)).trans (Keep.setCell _ _ _ fun hk => hk (.inl rfl))⟩
  · rw [heap_set (heap_set_other h.head (fun e => h3 e.symm) _ _) 2 _]
    simp
  · have hm := Nat.mod_lt (f + xs.length) hn
    rw [Array.getElem?_setIfInBounds]
    simp only [List.length_append, List.length_cons, List.length_nil] at hi
    by_cases e : i < xs.length
    · rw [if_neg (fun e' => by have := mod_inj (by omega) (by omega) e'; omega), h6 i e, List.getElem_append_left e]
    · obtain rfl : i = xs.length := by omega
      rw [if_pos rfl, if_pos (by rw [h5]; exact hm)]
      simp
theorem Ring.slotz_s {w : World} {r s n f : Nat} {a : Option Addr} {xs : List ByteArray} {room : Nat} (h : RingS w r s n f a xs room) (hn : 0 < n) {k : Nat} (hk : k < n) : ∃ z, w.cell? ⟨s, k, none⟩ = some z := by
  obtain ⟨h1, h2, h3, arr, h4, h5, h6⟩ := h.full hn
  exact ⟨arr[k], by rw [cell_of h4]; exact Array.getElem?_eq_getElem (by omega)⟩
theorem Ring.slotf_s {w : World} {r s n f : Nat} {a : Option Addr} {xs : List ByteArray} {room : Nat} (h : RingS w r s n f a xs room) (hn : 0 < n) (k : Nat) : w.frozen? ⟨s, k, none⟩ = false := by
  obtain ⟨h1, h2, h3, arr, h4, h5, h6⟩ := h.full hn
  exact frozen_of h4 k
set_option maxHeartbeats 2000000 in
theorem send_slot_s {W1 : World} {r s n f : Nat} {a : Option Addr} {xs : List ByteArray} {room : Nat} (h : RingS W1 r s n f a xs room) (hx : xs.length < n) (x : ByteArray) :
    Calls Try.prog 22 #[.pointer (some ⟨r, 0, none⟩), .string x] W1 fun e B => e = .returned (.bool true) ∧ RingS B r s n f a (xs ++ [x]) room ∧ Keep (fun k => ¬ foot r s n k) W1 B := by
  have hn : 0 < n := by omega
  have R1 := Lib.hid h
  have e1 : ¬ (xs.length : Int) = (room : Int) := by have := h.most; omega
  have e2 : ((xs.length : Int) == (room : Int)) = false := by simpa using e1
  have e3 : ¬ (xs.length : Int) = (n : Int) := by omega
  have e4 : ((xs.length : Int) == (n : Int)) = false := by simpa using e3
  have c3 := h.c3
  clear h
  have c0 := R1.out.c0
  have c2 := R1.out.c2
  have hsr : ¬ s = r := (R1.out.full hn).2.2.1
  obtain ⟨hfn, rfl⟩ : f < n ∧ a = some ⟨s, 0, none⟩ := ⟨(R1.out.full hn).1, (R1.out.full hn).2.1⟩
  have hk := Nat.mod_lt (f + xs.length) hn
  obtain ⟨z, cz⟩ := R1.out.slotz_s hn hk
  have fz : W1.frozen? ⟨s, (f + xs.length) % n, none⟩ = false := R1.out.slotf_s hn _
  have f2 := R1.out.fr 2
  have HS : Hid (∀ q, Calls Try.prog 34 #[.pointer (some ⟨r, 0, none⟩), .int .i64 (xs.length : Int)] (W1.drewN q) fun e w' => e = .returned (.int .i64 (((f + xs.length) % n : Nat) : Int)) ∧ ∃ m, w' = (W1.drewN q).drewN m) := fun q => slot_any_s (R1.out.drewN q) hn xs.length (by have := R1.out.fits; have := R1.out.most; have := R1.out.lid; omega)
  have P : Hid (∀ q, RingS (((W1.drewN q).setCell ⟨s, (f + xs.length) % n, none⟩ (.string x)).setCell ⟨r, 2, none⟩ (.int .i64 ((xs.length : Int) + 1))) r s n f (some ⟨s, 0, none⟩) (xs ++ [x]) room ∧ Keep (fun k => ¬ foot r s n k) W1 (((W1.drewN q).setCell ⟨s, (f + xs.length) % n, none⟩ (.string x)).setCell ⟨r, 2, none⟩ (.int .i64 ((xs.length : Int) + 1)))) :=
    fun q => ⟨((R1.out.drewN q).put_s hx x _ (by omega)).1, (Keep.drewN _ _ q).trans ((R1.out.drewN q).put_s hx x _ (by omega)).2⟩
  have D2 : ∀ q, ((W1.drewN q).setCell ⟨s, (f + xs.length) % n, none⟩ (.string x)).cell? ⟨r, 2, none⟩ = some (.int .i64 (xs.length : Int)) := fun q => (World.cell?_setCell_other _ _ _ _ (by intro e; injection e with e; exact hsr e)).trans c2
  have hlx : xs.length ≤ 65536 := by have := R1.out.fits; have := R1.out.most; have := R1.out.lid; omega
  generalize (f + xs.length) % n = k at *
  clear R1
  generalize xs.length = c at *
  go_enter Try.func22, Try.ntmps22
  go_wp2_with fail
  go_quiet (fail)
  go_wp2_with fail
  go_quiet (fail)
  go_wp2_with fail
  go_region_with (go_at_call 34; refine (HS.out _).mono ?_; rintro e w2 ⟨rfl, m2, rfl⟩)
  all_goals (
    go_wp2
    go_ret
    exact ⟨rfl, P.out _⟩)
set_option maxHeartbeats 2000000 in
theorem send_grow_s {w : World} {r s n f : Nat} {a : Option Addr} {xs : List ByteArray} {room : Nat} (h : RingS w r s n f a xs room) (hx : xs.length = n) (hr : n < room) (x : ByteArray) :
    Calls Try.prog 22 #[.pointer (some ⟨r, 0, none⟩), .string x] w fun e B => e = .returned (.bool true) ∧ ∃ g m, RingS B r g m 0 (some ⟨g, 0, none⟩) (xs ++ [x]) room ∧ w.heap.size ≤ g ∧ Keep (fun k => ¬ k = r) w B := by
  have e1 : ¬ (xs.length : Int) = (room : Int) := by omega
  have e2 : ((xs.length : Int) == (room : Int)) = false := by simpa using e1
  have G : Hid (∀ q, Calls Try.prog 33 #[.pointer (some ⟨r, 0, none⟩)] (w.drewN q) fun e B => e = .returned (.tuple #[]) ∧ Hid (∃ g n', n < n' ∧ RingS B r g n' 0 (some ⟨g, 0, none⟩) xs room ∧ w.heap.size ≤ g ∧ Keep (fun k => ¬ k = r) w B)) :=
    fun q => (grow_any_s (h.drewN q) hx hr).mono fun e B ⟨he, g, n', h1, h2, h3, h4⟩ => ⟨he, g, n', h1, h2, h3, (Keep.drewN _ _ q).trans h4⟩
  have c3 := h.c3
  have c0 := h.c0
  have c2 := h.c2
  have HX := Lib.hid hx
  have hc : (xs.length : Int) = (n : Int) := by omega
  rw [hc] at c2 e1 e2
  clear h hx
  clear hc
  go_enter Try.func22, Try.ntmps22
  go_wp2_with fail
  go_quiet (fail)
  go_wp2_with fail
  go_quiet (fail)
  go_wp2_with fail
  refine (G.out _).mono ?_
  rintro e W1 ⟨rfl, ho⟩
  obtain ⟨g, m, hm, R, hg, hkk⟩ := ho.out
  have R1 := Lib.hid R
  have hx := HX.out
  replace hx : xs.length < m := by omega
  have hn : 0 < m := by omega
  have KK := Lib.hid hkk
  have HG := Lib.hid hg
  clear c0 c2 c3 R hkk ho G HX hg
  have e0 : (0 + xs.length) % m = xs.length := by rw [Nat.zero_add, Nat.mod_eq_of_lt hx]
  have c0 := R1.out.c0
  have c2 := R1.out.c2
  have hsr : ¬ g = r := (R1.out.full hn).2.2.1
  have hk := hx
  obtain ⟨z, cz⟩ := R1.out.slotz_s hn hk
  have fz : W1.frozen? ⟨g, xs.length, none⟩ = false := R1.out.slotf_s hn _
  have f2 := R1.out.fr 2
  have HS : Hid (∀ q, Calls Try.prog 34 #[.pointer (some ⟨r, 0, none⟩), .int .i64 (xs.length : Int)] (W1.drewN q) fun e w' => e = .returned (.int .i64 ((xs.length : Nat) : Int)) ∧ ∃ m, w' = (W1.drewN q).drewN m) := fun q => by have := slot_any_s (R1.out.drewN q) hn xs.length (by have := R1.out.fits; have := R1.out.most; have := R1.out.lid; omega); rwa [e0] at this
  have P : Hid (∀ q, RingS (((W1.drewN q).setCell ⟨g, xs.length, none⟩ (.string x)).setCell ⟨r, 2, none⟩ (.int .i64 ((xs.length : Int) + 1))) r g m 0 (some ⟨g, 0, none⟩) (xs ++ [x]) room ∧ Keep (fun k => ¬ foot r g m k) W1 (((W1.drewN q).setCell ⟨g, xs.length, none⟩ (.string x)).setCell ⟨r, 2, none⟩ (.int .i64 ((xs.length : Int) + 1)))) :=
    fun q => ⟨by have := ((R1.out.drewN q).put_s hx x ((xs.length : Int) + 1) (by omega)).1; rwa [e0] at this, (Keep.drewN _ _ q).trans (by have := ((R1.out.drewN q).put_s hx x ((xs.length : Int) + 1) (by omega)).2; rwa [e0] at this)⟩
  have D2 : ∀ q, ((W1.drewN q).setCell ⟨g, xs.length, none⟩ (.string x)).cell? ⟨r, 2, none⟩ = some (.int .i64 (xs.length : Int)) := fun q => (World.cell?_setCell_other _ _ _ _ (by intro e; injection e with e; exact hsr e)).trans c2
  have hlx : xs.length ≤ 65536 := by have := R1.out.fits; have := R1.out.most; have := R1.out.lid; omega
  clear e0
  clear R1
  generalize xs.length = c at *
  go_wp2_with fail
  go_region_with (go_at_call 34; refine (HS.out _).mono ?_; rintro e w2 ⟨rfl, m2, rfl⟩)
  all_goals (
    go_wp2
    go_ret
    exact ⟨rfl, g, m, (P.out _).1, HG.out, KK.out.keeps HG.out (P.out _).2⟩)
theorem send_room_s {w : World} {r s n f : Nat} {a : Option Addr} {xs : List ByteArray} {room : Nat} (h : RingS w r s n f a xs room) (hr : xs.length < room) (x : ByteArray) :
    Calls Try.prog 22 #[.pointer (some ⟨r, 0, none⟩), .string x] w fun e B => e = .returned (.bool true) ∧ ∃ s' n' f' a', RingS B r s' n' f' a' (xs ++ [x]) room ∧ (∀ k, foot r s' n' k → foot r s n k ∨ w.heap.size ≤ k) ∧ Keep (fun k => ¬ foot r s n k) w B := by
  by_cases hx : xs.length < n
  · exact (send_slot_s h hx x).mono fun e B ⟨he, hR, hk⟩ => ⟨he, s, n, f, a, hR, fun k hk => .inl hk, hk⟩
  · have hx' : xs.length = n := by have := h.fits; omega
    refine (send_grow_s h hx' (by omega) x).mono fun e B ⟨he, g, m, hR, hg, hk⟩ => ⟨he, g, m, 0, _, hR, fun k hk => ?_, hk.mono fun k _ h e => h (.inl e)⟩
    rcases hk with rfl | ⟨_, rfl⟩
    · exact .inl (.inl rfl)
    · exact .inr hg
end Go.Proofs.Ytgkiekidmadabaa
