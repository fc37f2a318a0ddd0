/-
  The document's Halve and Bytes (cortadoref10) by contracts; a slice of bytes as a string.
-/
import Derived.Test.YthjbkabkoolfdaaDoorNbRefs
namespace Go.Proofs.YthjbkabkoolfdaaDoor.nb
open Go.RowKit
/-- a row of one's own, made so far. -/
def Made (enc : Nat → Value) (e : TypeId) (w : World) (v : Value) (k : Nat) (ys : List Nat) (W : World) : Prop := W.ownsRow w.heap.size e 1 v k (ys.map enc) ∧ Keep (fun k => k < w.heap.size) w W
theorem Made.size {enc : Nat → Value} {e : TypeId} {w W : World} {v : Value} {k : Nat} {ys : List Nat} (h : Made enc e w v k ys W) : w.heap.size ≤ W.heap.size := h.2.size
theorem Made.old {enc : Nat → Value} {e : TypeId} {w W : World} {v : Value} {k : Nat} {ys : List Nat} (h : Made enc e w v k ys W) : Below w.heap.size w W := h.2.below (fun _ h => h) (Nat.le_refl _)
theorem take_half (l : List Nat) (k : Nat) (hk : k < l.length) : (l.take k).map (· / 2) ++ [ct l k / 2] = (l.take (k + 1)).map (· / 2) := by
  rw [List.take_succ_eq_append_getElem hk, List.map_append]
  simp [ct, hk]
set_option maxHeartbeats 1000000 in
theorem refhalve_any {w : World} {v : Value} {l : List Nat} (h : Q e64 w v l) (hl : l.length ≤ 100000) (hlow : ∀ i, ct l i ≤ 15) : Calls Tryd.prog 49 #[v] w fun e B => ∃ v', e = .returned v' ∧ Q e64 B v' (l.map (· / 2)) ∧ Below w.heap.size w B ∧ ∀ k, v'.ownBlock = some k → w.heap.size ≤ k := by
  obtain ⟨a, cap, rfl, hcap⟩ := h.slice
  have S : Hid (Made e64 3 w (.slice none 0 0) 0 ((l.take 0).map (· / 2)) w) := ⟨World.ownsRow_nil _ _ _ _, .refl _ _⟩
  have N : Hid (∀ k v W, Made e64 3 w v k ((l.take k).map (· / 2)) W → k < l.length → ∃ b o c c2 : Nat, a = some ⟨b, o, none⟩ ∧ W.cell? ⟨b, o + k, none⟩ = some (.int .i64 (c : Int)) ∧ (c : Int) / 2 = (c2 : Int) ∧ c ≤ 15 ∧ c2 ≤ 15 ∧
      Hid (∀ ty, ∃ v' w', (Builtin.append_ #[70, 70] ty #[v, .slice (some ⟨W.heap.size, 0, none⟩) 1 1]).run Tryd.prog (W.alloc (.cells #[.int .i64 (c2 : Int)] 3)) = .ok v' w' ∧ ((∃ a c, v' = .slice a (k + 1) c) ∧ Hid (Made e64 3 w v' (k + 1) ((l.take (k + 1)).map (· / 2)) w')))) := fun k v W hW hk => by
    obtain ⟨b, o, cap', hv, hc⟩ := (h.below hW.old).at_ k hk
    injection hv with hv
    have hck := hlow k
    refine ⟨b, o, _, ct l k / 2, hv, hc, by omega, hck, by omega, fun ty => ?_⟩
    obtain ⟨v', w', hr, h1, h2⟩ := push_i hW.1 hW.size (by omega) (ct l k / 2) ty
    exact ⟨v', w', hr, h1, take_half l k hk ▸ h2.out.1, hW.2.trans h2.out.2⟩
  have D : Hid (∀ v W, Made e64 3 w v l.length ((l.take l.length).map (· / 2)) W → Q e64 W v (l.map (· / 2)) ∧ Below w.heap.size w W ∧ ∀ k, v.ownBlock = some k → w.heap.size ≤ k) := fun v W hW => by
    have h1 := hW.1
    rw [List.take_length] at h1
    refine ⟨Q.of_own (e := 3) (base := w.heap.size) (by rw [List.length_map]; exact h1), hW.old, fun k hk => (World.ownsRow.lt h1 k hk).1⟩
  clear h
  generalize hn : l.length = n at *
  clear hn
  go_enter Tryd.func49, Tryd.ntmps49
  go_wp2_with fail
  go_loopw [3, 4] (fun o i wr => ∃ k : Nat, k ≤ n ∧ i = .int .i64 k ∧ (∃ a c, o = .slice a k c) ∧ Hid (Made e64 3 w o k ((l.take k).map (· / 2)) wr)) (fun _ i _ => n - (intOf i).toNat)
  case atStart => exact ⟨0, Nat.zero_le _, rfl, ⟨_, _, rfl⟩, S⟩
  case round =>
    obtain ⟨k, hk, rfl, ⟨a1, c1, rfl⟩, hH⟩ := hrel
    by_cases hlt : k < n
    · obtain ⟨b, o, c, c2, rfl, hc, h2, hc15, h15, hN⟩ := N.out _ _ _ hH.out hlt
      go_wp2_with (at_builtin; refine app_step _ rfl _ _ 70 rfl _ _ rfl rfl (hN.out _) ?_; rintro v2 w2 ⟨⟨a2, c3, rfl⟩, q2⟩)
      go_roundw
      case rel => exact ⟨k + 1, by omega, by simp, ⟨_, _, rfl⟩, q2⟩
      case measure => simp [intOf]; omega
    · obtain rfl : k = n := by omega
      go_wp2
      go_ret
      exact ⟨_, rfl, D.out _ _ hH.out⟩
end Go.Proofs.YthjbkabkoolfdaaDoor.nb
