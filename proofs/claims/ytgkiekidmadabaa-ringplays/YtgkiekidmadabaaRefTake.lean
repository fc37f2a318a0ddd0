/-
  The document's queue (cortadoref07), more: Take, At, Same by their contracts; and the law's helper stands.
-/
import Derived.Test.YtgkiekidmadabaaRefs
namespace Go.Proofs.Ytgkiekidmadabaa
open Go.RowKit Go.Shelf
theorem reftake_empty (a : Option Addr) (cap room : Nat) (w : World) : Calls Try.prog 11 #[qv (.slice a 0 cap) room] w fun e B => e = .returned (.tuple #[qv (.slice a 0 cap) room, .int .i64 0, .bool false]) ∧ Below w.heap.size w B := by
  go_enter Try.func11, Try.ntmps11
  go_wp2
  exact bodyPost_ret (v := .tuple #[qv (.slice a 0 cap) room, .int .i64 0, .bool false]) (by simp [results, Try.results11, go_sem]) rfl ⟨rfl, Keep.below (K := fun _ => True) ((Keep.alloc _ _ _).trans (Keep.alloc _ _ _)) (fun _ _ => trivial) (Nat.le_refl _)⟩
set_option maxHeartbeats 2000000 in
theorem reftake_some (b o n cap room : Nat) (x : Int) (w : World) (hc : n + 1 ≤ cap) (h0 : w.cell? ⟨b, o, none⟩ = some (.int .i64 x)) : Calls Try.prog 11 #[qv (.slice (some ⟨b, o, none⟩) (n + 1) cap) room] w fun e B => ∃ o', e = .returned (.tuple #[qv (.slice (some ⟨b, o', none⟩) n (cap - 1)) room, .int .i64 x, .bool true]) ∧ (1 < cap → o' = o + 1) ∧ Below w.heap.size w B := by
  obtain ⟨o', ho, ho'⟩ : ∃ o', (if cap = 1 then some (⟨b, o, none⟩ : Addr) else some ⟨b, o + 1, none⟩) = some ⟨b, o', none⟩ ∧ Hid (1 < cap → o' = o + 1) := by
    by_cases h : cap = 1
    · exact ⟨o, by rw [if_pos h], fun h' => by omega⟩
    · exact ⟨o + 1, by rw [if_neg h], fun _ => rfl⟩
  obtain ⟨N, hN⟩ : ∃ N, w.heap.size = N := ⟨_, rfl⟩
  have hB0 : Ba w N (.slice (some ⟨b, o, none⟩) (n + 1) cap) (.slice none 0 0) (.int .i64 0) room ((w.alloc (.cells #[.slice (some ⟨b, o, none⟩) (n + 1) cap, .int .i64 (room : Int)] 28)).alloc (.cells #[.slice none 0 0, .int .i64 0] 28)) := hN ▸ Ba.new w _ _ _ room
  have hb := World.block_lt_of_cell? w ⟨b, o, none⟩ h0
  have hc0 : ((w.alloc (.cells #[.slice (some ⟨b, o, none⟩) (n + 1) cap, .int .i64 (room : Int)] 28)).alloc (.cells #[.slice none 0 0, .int .i64 0] 28)).cell? ⟨b, o, none⟩ = some (.int .i64 x) := cell_past (cell_past h0)
  have X1 := Lib.hid hB0
  rw [hN]
  clear hB0 h0
  have i1 : (1 : Int) ≤ ((n + 1 : Nat) : Int) := by omega
  have i2 : ((n + 1 : Nat) : Int) ≤ (cap : Int) := by omega
  have i3 : (1 : Int) ≤ (cap : Int) := by omega
  have i4 : ¬ ((n : Int) + 1 = 0) := by omega
  have i5 : (0 : Int) < (n : Int) + 1 := by omega
  have i6 : (1 : Int) ≤ (n : Int) + 1 := by omega
  have hbN : ¬ b = N + 1 := by have : b < w.heap.size := hb; omega
  clear hb
  go_enter Try.func11, Try.ntmps11
  go_wp2_with fail
  generalize (w.alloc (.cells #[.slice (some ⟨b, o, none⟩) (n + 1) cap, .int .i64 (room : Int)] 28)).alloc (.cells #[.slice none 0 0, .int .i64 0] 28) = W0 at *
  have hB := X1.out.drew
  have c0 : W0.drew.cell? ⟨b, o, none⟩ = some (.int .i64 x) := hc0
  have d0 := X1.out.o0
  have d1 := X1.out.o1
  have f0 := X1.out.fr 0
  have f1 := X1.out.fr 1
  go_region_held3 (fun W => W.cell? ⟨N, 0, none⟩ = some (.slice (some ⟨b, o, none⟩) (n + 1) cap) ∧ W.cell? ⟨N, 1, none⟩ = some (.int .i64 (room : Int)) ∧ W.cell? ⟨b, o, none⟩ = some (.int .i64 x))
    (first | exact ⟨hB.b0, hB.b1, c0⟩ | exact ⟨(hB.set _ _).b0, (hB.set _ _).b1, (World.cell?_setCell_other _ _ _ _ (by intro e; injection e with e; exact hbN e.symm)).trans ((World.cell?_setCell_other _ _ _ _ (by intro e; injection e with e; exact hbN e.symm)).trans c0)⟩) (fail)
  all_goals (
    have hB3 := X1.out.set (.slice (some ⟨b, o', none⟩) n (cap - 1)) (.int .i64 (room : Int))
    have e0 := hB3.o0
    have e1 := hB3.o1
    have Y := Lib.hid hB3.drew.old
    clear hB3 hB
    go_wp2
    exact bodyPost_ret (v := .tuple #[qv (.slice (some ⟨b, o', none⟩) n (cap - 1)) room, .int .i64 x, .bool true]) (by simp [results, Try.results11, go_sem, e0, e1]) rfl ⟨o', rfl, ho'.out, Y.out⟩)
theorem reftake_any (v : Value) (l : List Int) (room : Nat) (w : World) (hq : Q w v l) : Calls Try.prog 11 #[qv v room] w fun e B => ∃ v', e = .returned (.tuple #[qv v' room, .int .i64 (l.headD 0), .bool (decide (0 < l.length))]) ∧ Q B v' l.tail ∧ (∀ k, v'.ownBlock = some k → v.ownBlock = some k) ∧ Below w.heap.size w B := by
  cases l with
  | nil =>
    obtain ⟨a, cap, rfl, _⟩ := hq.slice
    exact (reftake_empty a cap room w).mono fun e B ⟨he, hb⟩ => ⟨_, he, hq.below hb, fun _ h => h, hb⟩
  | cons x ys =>
    rcases hq with ⟨_, h⟩ | ⟨b, o, cap, rfl, hc, hi⟩
    · cases h
    · refine (reftake_some b o ys.length cap room x w hc (hi 0 (by simp))).mono fun e B ⟨o', he, ho, hb⟩ => ⟨_, by simp [he], .inr ⟨b, o', cap - 1, rfl, by simp at hc; simp; omega, fun i h => ?_⟩, fun k hk => by simpa [Value.ownBlock] using hk, hb⟩
      simp at h hc
      have h1 := hi (i + 1) (by simp; omega)
      rw [ho (by omega), show o + 1 + i = o + (i + 1) by omega]
      exact (hb.cell (p := ⟨b, o + (i + 1), none⟩) (World.block_lt_of_cell? w ⟨b, o + (i + 1), none⟩ h1)).trans h1
theorem refat_any (v : Value) (l : List Int) (room : Nat) (i : Int) (w : World) (hq : Q w v l) (hl : l.length ≤ 1000000) : Calls Try.prog 13 #[qv v room, .int .i64 i] w fun e B => e = .returned (.tuple #[.int .i64 (if 0 ≤ i then l.getD i.toNat 0 else 0), .bool (decide (0 ≤ i ∧ i < l.length))]) ∧ Below w.heap.size w B := by
  by_cases hi : 0 ≤ i ∧ i < l.length
  · obtain ⟨k, rfl⟩ : ∃ k : Nat, i = (k : Int) := ⟨i.toNat, by omega⟩
    have hk : k < l.length := by omega
    rw [decide_eq_true hi, if_pos hi.1]
    rcases hq with ⟨_, rfl⟩ | ⟨b, o, cap, rfl, hc, hcell⟩
    · simp at hk
    · have ck := hcell k hk
      have e : l.getD (Int.toNat (k : Int)) 0 = l[k] := by simp [List.getD_eq_getElem?_getD, hk]
      rw [e]
      clear e hcell hi
      generalize l[k] = x at *
      have j1 : decide ((l.length : Int) ≤ (k : Int)) = false := by simp; omega
      have ck' : (w.alloc (.cells #[.slice (some ⟨b, o, none⟩) l.length cap, .int .i64 (room : Int)] 28)).cell? ⟨b, o + k, none⟩ = some (.int .i64 x) := cell_past ck
      go_enter Try.func13, Try.ntmps13
      go_wp2
      go_ret2
      exact ⟨rfl, (Below.refl _ _).alloc (Nat.le_refl _) _⟩
  · rw [decide_eq_false hi]
    have e : (if 0 ≤ i then l.getD i.toNat 0 else 0) = 0 := by
      by_cases h0 : 0 ≤ i
      · rw [if_pos h0, List.getD_eq_getElem?_getD, List.getElem?_eq_none (by omega)]
        rfl
      · rw [if_neg h0]
    rw [e]
    obtain ⟨a, cap, rfl, _⟩ := hq.slice
    clear hq e
    by_cases h0 : i < 0
    · clear hi
      go_enter Try.func13, Try.ntmps13
      go_wp2
      go_ret2
      exact ⟨rfl, (Below.refl _ _).alloc (Nat.le_refl _) _⟩
    · have h1 : (l.length : Int) ≤ i := by omega
      have h2 : (0 : Int) ≤ i := by omega
      clear hi
      go_enter Try.func13, Try.ntmps13
      go_wp2
      go_ret2
      exact ⟨rfl, (Below.refl _ _).alloc (Nat.le_refl _) _⟩
set_option maxHeartbeats 2000000 in
theorem same_any (u v : Value) (l : List Int) (w : World) (hu : Row w u l) (hv : Row w v l) (hl : l.length ≤ 1000000) : Calls Try.prog 15 #[u, v] w fun e B => e = .returned (.bool true) ∧ ∃ m, B = w.drewN m := by
  obtain ⟨a, c1, rfl, hc1, hu'⟩ := hu
  obtain ⟨b, c2, rfl, hc2, hv'⟩ := hv
  have HU := Lib.hid hu'
  have HV := Lib.hid hv'
  clear hu' hv'
  go_enter Try.func15, Try.ntmps15
  go_wp2_with fail
  go_loopw [5] (fun i wr => ∃ k m : Nat, k ≤ l.length ∧ i = .int .i64 k ∧ wr = w.drewN m) (fun i _ => l.length - (intOf i).toNat)
  case atStart => exact ⟨0, 0, Nat.zero_le _, rfl, rfl⟩
  case round =>
    obtain ⟨k, m, hk, rfl, rfl⟩ := hrel
    by_cases hlt : k < l.length
    · obtain ⟨b1, o1, rfl, h1⟩ := HU.out (by omega)
      obtain ⟨b2, o2, rfl, h2⟩ := HV.out (by omega)
      have d1 := h1 k hlt
      have d2 := h2 k hlt
      have i1 : (k : Int) < (l.length : Int) := by omega
      have i2 : (0 : Int) ≤ (k : Int) := by omega
      clear h1 h2 HU HV
      generalize l[k] = x at *
      go_wp2_with fail
      go_quiet (fail)
      go_wp2
      go_roundw
      case rel => exact ⟨k + 1, _, by omega, by simp, rfl⟩
      case measure => simp [intOf]; omega
    · obtain rfl : k = l.length := by omega
      clear HU HV
      go_wp2
      go_ret
      exact ⟨rfl, m, rfl⟩
set_option maxHeartbeats 2000000 in
theorem stands_any {K : Nat → Prop} {r room : Nat} (v : Value) (l : List Int) (w : World) (h : Has K w r l room) (hv : Row w v l) : Calls Try.prog 19 #[.pointer (some ⟨r, 0, none⟩), v] w fun e B => e = .returned (.bool true) ∧ ∃ m, B = w.drewN m := by
  have hl : l.length ≤ 65536 := by have := h.lid; omega
  obtain ⟨a, c1, rfl, hc1, hv'⟩ := hv
  have HV := Lib.hid hv'
  have HA : Hid (∀ k, (hk : k < l.length) → ∀ q, Calls Try.prog 14 #[.pointer (some ⟨r, 0, none⟩), .int .i64 (k : Int)] (w.drewN q) fun e B => e = .returned (.tuple #[.int .i64 l[k], .bool true]) ∧ ∃ m, B = (w.drewN q).drewN m) := fun k hk q => by
    obtain ⟨s, n, f, a, hr, _⟩ := h.drewN q
    exact at_in hr k hk
  clear hv' h
  go_enter Try.func19, Try.ntmps19
  go_wp2_with fail
  go_loopw [5] (fun i wr => ∃ k m : Nat, k ≤ l.length ∧ i = .int .i64 k ∧ wr = w.drewN m) (fun i _ => l.length - (intOf i).toNat)
  case atStart => exact ⟨0, 0, Nat.zero_le _, rfl, rfl⟩
  case round =>
    obtain ⟨k, m, hk, rfl, rfl⟩ := hrel
    by_cases hlt : k < l.length
    · obtain ⟨b1, o1, rfl, h1⟩ := HV.out (by omega)
      have d1 := h1 k hlt
      have T := Lib.hid (HA.out k hlt m)
      have i1 : (k : Int) < (l.length : Int) := by omega
      have i2 : (0 : Int) ≤ (k : Int) := by omega
      clear h1 HV HA
      generalize l[k] = x at *
      go_wp2_with fail
      refine T.out.mono ?_
      rintro e w1 ⟨rfl, m1, rfl⟩
      go_wp2
      go_roundw
      case rel => exact ⟨k + 1, _, by omega, by simp, rfl⟩
      case measure => simp [intOf]; omega
    · obtain rfl : k = l.length := by omega
      clear HV HA
      go_wp2
      go_ret
      exact ⟨rfl, m, rfl⟩
end Go.Proofs.Ytgkiekidmadabaa
