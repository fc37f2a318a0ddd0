/-
  The document's Halve and Bytes (cortadoref10) by contracts; a slice of bytes as a string.
-/
import Derived.Test.YtnbgloooklgngaaRefs
namespace Go.Proofs.Ytnbgloooklgngaa
open Go.RowKit
/-- a row of one's own, made so far. -/
def Made (enc : Nat → Value) (e : TypeId) (w : World) (v : Value) (k : Nat) (ys : List Nat) (W : World) : Prop := W.ownsRow w.heap.size e 1 v k (ys.map enc) ∧ Keep (fun k => k < w.heap.size) w W
theorem Made.size {enc : Nat → Value} {e : TypeId} {w W : World} {v : Value} {k : Nat} {ys : List Nat} (h : Made enc e w v k ys W) : w.heap.size ≤ W.heap.size := h.2.size
theorem Made.old {enc : Nat → Value} {e : TypeId} {w W : World} {v : Value} {k : Nat} {ys : List Nat} (h : Made enc e w v k ys W) : Below w.heap.size w W := h.2.below (fun _ h => h) (Nat.le_refl _)
theorem take_half (l : List Nat) (k : Nat) (hk : k < l.length) : (l.take k).map (· / 2) ++ [ct l k / 2] = (l.take (k + 1)).map (· / 2) := by
  rw [List.take_succ_eq_append_getElem hk, List.map_append]
  simp [ct, hk]
set_option maxHeartbeats 1000000 in
theorem refhalve_any {w : World} {v : Value} {l : List Nat} (h : Q e64 w v l) (hl : l.length ≤ 100000) (hlow : ∀ i, ct l i ≤ 15) : Calls Try.prog 9 #[v] w fun e B => ∃ v', e = .returned v' ∧ Q e64 B v' (l.map (· / 2)) ∧ Below w.heap.size w B ∧ ∀ k, v'.ownBlock = some k → w.heap.size ≤ k := by
  obtain ⟨a, cap, rfl, hcap⟩ := h.slice
  have S : Hid (Made e64 3 w (.slice none 0 0) 0 ((l.take 0).map (· / 2)) w) := ⟨World.ownsRow_nil _ _ _ _, .refl _ _⟩
  have N : Hid (∀ k v W, Made e64 3 w v k ((l.take k).map (· / 2)) W → k < l.length → ∃ b o c c2 : Nat, a = some ⟨b, o, none⟩ ∧ W.cell? ⟨b, o + k, none⟩ = some (.int .i64 (c : Int)) ∧ (c : Int) / 2 = (c2 : Int) ∧ c ≤ 15 ∧ c2 ≤ 15 ∧
      Hid (∀ ty, ∃ v' w', (Builtin.append_ #[27, 27] ty #[v, .slice (some ⟨W.heap.size, 0, none⟩) 1 1]).run Try.prog (W.alloc (.cells #[.int .i64 (c2 : Int)] 3)) = .ok v' w' ∧ ((∃ a c, v' = .slice a (k + 1) c) ∧ Hid (Made e64 3 w v' (k + 1) ((l.take (k + 1)).map (· / 2)) w')))) := fun k v W hW hk => by
    obtain ⟨b, o, cap', hv, hc⟩ := (h.below hW.old).at_ k hk
    injection hv with hv
    have hck := hlow k
    refine ⟨b, o, _, ct l k / 2, hv, hc, by omega, hck, by omega, fun ty => ?_⟩
    obtain ⟨v', w', hr, h1, h2⟩ := push_i hW.1 hW.size (by omega) (ct l k / 2) ty
    exact ⟨v', w', hr, h1, take_half l k hk ▸ h2.out.1, hW.2.trans h2.out.2⟩
  have D : Hid (∀ v W, Made e64 3 w v l.length ((l.take l.length).map (· / 2)) W → Q e64 W v (l.map (· / 2)) ∧ Below w.heap.size w W ∧ ∀ k, v.ownBlock = some k → w.heap.size ≤ k) := fun v W hW => by
    have h1 := hW.1
    rw [List.take_length] at h1
    refine ⟨Q.of_own (e := 3) (base := w.heap.size) (by rw [List.length_map]; exact h1), hW.old, fun k hk => (World.ownsRow.lt h1 k hk).1⟩
  clear h
  generalize hn : l.length = n at *
  clear hn
  go_enter Try.func9, Try.ntmps9
  go_wp2_with fail
  go_loopw [3, 4] (fun o i wr => ∃ k : Nat, k ≤ n ∧ i = .int .i64 k ∧ (∃ a c, o = .slice a k c) ∧ Hid (Made e64 3 w o k ((l.take k).map (· / 2)) wr)) (fun _ i _ => n - (intOf i).toNat)
  case atStart => exact ⟨0, Nat.zero_le _, rfl, ⟨_, _, rfl⟩, S⟩
  case round =>
    obtain ⟨k, hk, rfl, ⟨a1, c1, rfl⟩, hH⟩ := hrel
    by_cases hlt : k < n
    · obtain ⟨b, o, c, c2, rfl, hc, h2, hc15, h15, hN⟩ := N.out _ _ _ hH.out hlt
      go_wp2_with (at_builtin; refine app_step _ rfl _ _ 27 rfl _ _ rfl rfl (hN.out _) ?_; rintro v2 w2 ⟨⟨a2, c3, rfl⟩, q2⟩)
      go_roundw
      case rel => exact ⟨k + 1, by omega, by simp, ⟨_, _, rfl⟩, q2⟩
      case measure => simp [intOf]; omega
    · obtain rfl : k = n := by omega
      go_wp2
      go_ret
      exact ⟨_, rfl, D.out _ _ hH.out⟩
theorem take_pack (l : List Nat) (k : Nat) (hk : 2 * k < l.length) : (pack l).take k ++ [ct l (2 * k) + 16 * ct l (2 * k + 1)] = (pack l).take (k + 1) := by
  have hp : k < (pack l).length := by rw [pack_len]; omega
  have := pack_get l k (by omega)
  rw [List.take_succ_eq_append_getElem hp]
  rw [List.getElem?_eq_getElem hp] at this
  injection this with this
  rw [this]
/-- the document's Get of what lies at the odd place, or of none. -/
theorem refget_any {w : World} {v : Value} {l : List Nat} (h : Q e64 w v l) (i : Nat) : Calls Try.prog 12 #[v, .int .i64 (i : Int)] w fun e w' => e = .returned (.int .i64 (ct l i : Int)) ∧ w' = w := by
  by_cases hi : i < l.length
  · exact refget_in h i hi
  · obtain ⟨a, cap, rfl, _⟩ := h.slice
    rw [ct_past l i (by omega)]
    exact refget_out _ (by omega)
set_option maxHeartbeats 2000000 in
theorem refbytes_any {w : World} {v : Value} {l : List Nat} (h : Q e64 w v l) (hl : l.length ≤ 100000) (hlow : ∀ i, ct l i ≤ 15) : Calls Try.prog 22 #[v] w fun e B => ∃ v', e = .returned v' ∧ Q e8 B v' (pack l) ∧ Below w.heap.size w B := by
  obtain ⟨a, cap, rfl, hcap⟩ := h.slice
  have S : Hid (Made e8 5 w (.slice none 0 0) 0 ((pack l).take 0) w) := ⟨World.ownsRow_nil _ _ _ _, .refl _ _⟩
  have N : Hid (∀ k v W, Made e8 5 w v k ((pack l).take k) W → 2 * k < l.length → ∃ b o c d x : Nat, a = some ⟨b, o, none⟩ ∧ W.drew.cell? ⟨b, o + 2 * k, none⟩ = some (.int .i64 (c : Int)) ∧ Hid (∀ W', Keep (fun _ => True) W W' → Calls Try.prog 12 #[.slice (some ⟨b, o, none⟩) l.length cap, .int .i64 (2 * (k : Int) + 1)] W' fun e w' => e = .returned (.int .i64 (d : Int)) ∧ w' = W') ∧ IntKind.i64.wrap (16 * (d : Int)) = 16 * (d : Int) ∧ IntKind.i64.wrap ((c : Int) + 16 * (d : Int)) = (c : Int) + 16 * (d : Int) ∧ IntKind.u8.wrap ((c : Int) + 16 * (d : Int)) = (x : Int) ∧
      Hid (∀ ty W', W' = W.drew → ∃ v' w', (Builtin.append_ #[44, 44] ty #[v, .slice (some ⟨W'.heap.size, 0, none⟩) 1 1]).run Try.prog (W'.alloc (.cells #[.int .u8 (x : Int)] 5)) = .ok v' w' ∧ ((∃ a c, v' = .slice a (k + 1) c) ∧ w'.cell? ⟨b, o + 2 * k, none⟩ = some (.int .i64 (c : Int)) ∧ Hid (Made e8 5 w v' (k + 1) ((pack l).take (k + 1)) w')))) := fun k v W hW hk => by
    have hq := h.below hW.old
    obtain ⟨b, o, cap', hv, hc⟩ := hq.at_ (2 * k) hk
    injection hv with hv hv1 hv2
    subst hv
    have h1 := hlow (2 * k)
    have h2 := hlow (2 * k + 1)
    refine ⟨b, o, _, ct l (2 * k + 1), ct l (2 * k) + 16 * ct l (2 * k + 1), rfl, hc, fun W' hk' => ?_, by rw [IntKind.wrap_i64]; omega, by rw [IntKind.wrap_i64]; omega, by rw [IntKind.wrap_u8']; omega, fun ty W' e => ?_⟩
    · have := refget_any (hq.keep hk' fun _ _ => trivial) (2 * k + 1)
      rwa [show (((2 * k + 1 : Nat) : Int)) = 2 * (k : Int) + 1 by omega] at this
    · subst e
      obtain ⟨v', w', hr, h1, h2⟩ := push_b (W := W.drew) ((Keep.drew (fun _ => True) W).own hW.1 fun _ _ => trivial) hW.size (by omega) (ct l (2 * k) + 16 * ct l (2 * k + 1)) ty
      have hM : Made e8 5 w v' (k + 1) ((pack l).take (k + 1)) w' := ⟨take_pack l k hk ▸ h2.out.1, hW.2.trans ((Keep.drew _ _).trans h2.out.2)⟩
      obtain ⟨b1, o1, cap1, hv1, hc1⟩ := (h.below hM.old).at_ (2 * k) hk
      simp only [Value.slice.injEq, Option.some.injEq, Addr.mk.injEq, and_true, true_and] at hv1
      obtain ⟨⟨rfl, rfl⟩, _⟩ := hv1
      exact ⟨v', w', hr, h1, hc1, hM⟩
  have D : Hid (∀ k v W, l.length ≤ 2 * k → 2 * k ≤ l.length + 1 → Made e8 5 w v k ((pack l).take k) W → Q e8 W v (pack l) ∧ Below w.heap.size w W) := fun k v W h1 h2 hW => by
    have h1 := hW.1
    have e : k = (pack l).length := by rw [pack_len]; omega
    rw [List.take_of_length_le (by omega), e] at h1
    exact ⟨Q.of_own (e := 5) (base := w.heap.size) h1, hW.old⟩
  clear h
  generalize hn : l.length = n at *
  clear hn
  go_enter Try.func22, Try.ntmps22
  go_wp2_with fail
  go_loopw [3, 4] (fun o i wr => ∃ k : Nat, 2 * k ≤ n + 1 ∧ i = .int .i64 (2 * (k : Int)) ∧ (∃ a c, o = .slice a k c) ∧ Hid (Made e8 5 w o k ((pack l).take k) wr)) (fun _ i _ => n + 2 - (intOf i).toNat)
  case atStart => exact ⟨0, by omega, rfl, ⟨_, _, rfl⟩, S⟩
  case round =>
    obtain ⟨k, hk, rfl, ⟨a1, c1, rfl⟩, hH⟩ := hrel
    by_cases hlt : 2 * k < n
    · obtain ⟨b, o, c, d, x, rfl, hc, hG, u1, u2, u3, hN⟩ := N.out _ _ _ hH.out hlt
      have z1 : (0 : Int) ≤ 2 * (k : Int) := by omega
      have z2 : 2 * (k : Int) < (n : Int) := by omega
      have z3 : IntKind.i64.wrap (2 * (k : Int) + 1) = 2 * (k : Int) + 1 := by rw [IntKind.wrap_i64]; omega
      have z4 : (2 * (k : Int)).toNat = 2 * k := by omega
      go_wp2_with fail
      go_region_held3 (fun W => W.cell? ⟨b, o + 2 * k, none⟩ = some (.int .i64 (c : Int))) (first | exact hc | assumption | exact cell_past (w := wr) hc) (first
        | (go_at_call 12; refine (hG.out _ (Keep.drew _ _)).mono ?_; rintro e w2 ⟨rfl, e2⟩; subst e2)
        | (refine step_ex _ (by rfl) _ _ 44 (by rfl) _ _ (by rfl) (by rfl) (hN.out _ wr.drew rfl) ?_; rintro v2 w2 ⟨⟨a2, c3, rfl⟩, d2, q2⟩))
      all_goals (
        go_wp2
        go_roundw
        case rel => exact ⟨k + 1, by omega, by simp; omega, ⟨_, _, rfl⟩, q2⟩
        case measure => simp [intOf]; omega)
    · have z2 : ¬ 2 * (k : Int) < (n : Int) := by omega
      go_wp2
      go_ret
      exact ⟨_, rfl, D.out _ _ _ (by omega) hk hH.out⟩
end Go.Proofs.Ytnbgloooklgngaa
