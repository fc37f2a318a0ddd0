/-
  The laws' helper awake, by its contract; a door and the document's side by side ('Ps').
-/
import Derived.Test.YtmfdobppihjjkaaDoorPut
import Derived.Test.YtmfdobppihjjkaaDoorNe
import Derived.Test.YtmfdobppihjjkaaDoorFu
import Derived.Test.YtmfdobppihjjkaaDoorRc
namespace Go.Proofs.YtmfdobppihjjkaaDoor
open Go.RowKit
theorem since_self {w0 w : World} (h : mx.Since w0 w) : mx.Since w w := ⟨⟨h.pos, fun i hi => h.cell i hi⟩, Below.refl _ _⟩
theorem bd_four : bdN 4 = 4 := by decide +kernel
theorem has_zeros (p : Nat → Nat) (m : Nat) : hasB p (List.replicate m 0) = false := has_false 0 (by decide) (bt_zeros m _)
/-- what was put is there. -/
theorem has_put (p : Nat → Nat) (bs : List Nat) (hp : ∀ i, p i < 8 * bs.length) : hasB p (putB p bs) = true := by
  unfold putB
  split
  · assumption
  · exact has_true fun i hi => by rw [bt_putTo p bs hp, if_pos ⟨i, hi, rfl⟩]
/-- .. and what was there still is. -/
theorem bt_put_mono (p : Nat → Nat) (bs : List Nat) (hp : ∀ i, p i < 8 * bs.length) (x : Nat) (h : bt bs x = 1) : bt (putB p bs) x = 1 := by
  unfold putB
  split
  · exact h
  · rw [bt_putTo p bs hp]
    split
    · rfl
    · exact h
/-- .. and what is at another place than the key's is as it was. -/
theorem bt_put_other (p : Nat → Nat) (bs : List Nat) (hp : ∀ i, p i < 8 * bs.length) (x : Nat) (h : ∀ i, i < 4 → x ≠ p i) : bt (putB p bs) x = bt bs x := by
  unfold putB
  split
  · rfl
  · rw [bt_putTo p bs hp, if_neg]
    rintro ⟨i, hi, e⟩
    exact h i hi e
set_option maxHeartbeats 1000000 in
theorem awake_any (w0 w : World) (h : mx.Since w0 w) : Calls Tryd.prog 5 #[] w fun e B => e = .returned (.bool true) ∧ Hid (Below w.heap.size w B) := by
  have hs := since_self h
  have T6 : Hid (Calls Tryd.prog 6 #[.int .i64 4, .int .u64 0] w fun e B => ∃ S G, e = .returned (.pointer (some ⟨S, 0, none⟩)) ∧ Hid (At w S G (mixF 0) (List.replicate 4 0) B)) := by
    have := new_any 4 0 (by decide) w hs
    rwa [bd_four] at this
  have T14 : Hid (∀ (S G : Nat) (W : World), At w S G (mixF 0) (List.replicate 4 0) W → Calls Tryd.prog 14 #[.pointer (some ⟨S, 0, none⟩), .int .u64 3] W fun e B => e = .returned (.bool true) ∧ Hid (At w S G (mixF 0) (putB (plN (mixF 0) 32 3) (List.replicate 4 0)) B)) := fun S G W hW => by
    have := put_some hW 3 (by decide)
    rw [has_zeros] at this
    exact this.mono fun e B ⟨he, h1, _⟩ => ⟨he, h1⟩
  have T14' : Hid (∀ (S G : Nat) (W : World), At w S G (mixF 0) (putB (plN (mixF 0) 32 3) (List.replicate 4 0)) W → Calls Tryd.prog 14 #[.pointer (some ⟨S, 0, none⟩), .int .u64 3] W fun e B => e = .returned (.bool false) ∧ Hid (At w S G (mixF 0) (putB (plN (mixF 0) 32 3) (putB (plN (mixF 0) 32 3) (List.replicate 4 0))) B)) := fun S G W hW => by
    have := put_some hW 3 (by decide)
    rw [putB_len, List.length_replicate, has_put _ _ (fun i => by rw [List.length_replicate]; exact plN_lt _ _ _ _ (by decide))] at this
    exact this.mono fun e B ⟨he, h1, _⟩ => ⟨he, h1⟩
  have T17 : Hid (∀ (S G : Nat) (W : World), At w S G (mixF 0) (putB (plN (mixF 0) 32 3) (putB (plN (mixF 0) 32 3) (List.replicate 4 0))) W → Calls Tryd.prog 17 #[.pointer (some ⟨S, 0, none⟩)] W fun e B => e = .returned (.int .i64 32) ∧ B = W) := fun S G W hW => by
    have := bits_some hW.dr
    rw [putB_len, putB_len, List.length_replicate] at this
    exact this
  have D : Hid (∀ (S G : Nat) (bs : List Nat) (W : World), At w S G (mixF 0) bs W → Below w.heap.size w W) := fun S G bs W hW => hW.old.2
  generalize putB (plN (mixF 0) 32 3) (putB (plN (mixF 0) 32 3) (List.replicate 4 0)) = g2 at *
  generalize putB (plN (mixF 0) 32 3) (List.replicate 4 0) = g1 at *
  generalize List.replicate 4 0 = g0 at *
  clear h hs
  go_enter Tryd.func5, Tryd.ntmps5
  go_wp2_with fail
  refine T6.out.mono ?_
  rintro e w1 ⟨S, G, rfl, h1⟩
  go_wp2_with fail
  refine (T14.out _ _ _ h1.out).mono ?_
  rintro e w2 ⟨rfl, h2⟩
  go_wp2_with fail
  refine (T14'.out _ _ _ h2.out).mono ?_
  rintro e w3 ⟨rfl, h3⟩
  have T := Lib.hid (T17.out _ _ _ h3.out)
  go_wp2_with (go_at_call 17; refine T.out.mono ?_; rintro e w4 ⟨rfl, e4⟩; obtain rfl : w3 = w4 := e4.symm)
  go_ret
  exact ⟨rfl, D.out _ _ _ _ h3.out⟩
/-- the door with the bytes bs; the document's with the same bits, in the box V; each apart. -/
structure Ps (w : World) (S G t V seed : Nat) (bs : List Nat) (v : Value) (W : World) : Prop where
  at_ : At w S G t bs W
  q : Q eb W v (ub bs)
  own : ∀ b, v.ownBlock = some b → b ≠ G ∧ b ≠ V
  box : W.heap[V]? = some (.cells #[v, .int .u64 (seed : Int)] 29 (0, 0))
  far : V ≠ G
  sd : t = mixF seed
  lw : seed < 18446744073709551616
  le : w.heap.size ≤ V
namespace Ps
variable {w W B : World} {S G t V seed : Nat} {bs bs' : List Nat} {v : Value}
theorem below (h : Ps w S G t V seed bs v W) (hb : Below W.heap.size W B) : Ps w S G t V seed bs v B :=
  ⟨h.at_.below hb, h.q.below hb, h.own, (hb.block V (heap_lt h.box)).trans h.box, h.far, h.sd, h.lw, h.le⟩
theorem drewN (h : Ps w S G t V seed bs v W) (q : Nat) : Ps w S G t V seed bs v (W.drewN q) := h.below ⟨rfl, rfl, rfl, Nat.le_refl _, fun _ _ => rfl⟩
theorem cells (h : Ps w S G t V seed bs v W) : W.cell? ⟨V, 0, none⟩ = some v ∧ W.cell? ⟨V, 1, none⟩ = some (.int .u64 (seed : Int)) ∧ W.frozen? ⟨V, 0, none⟩ = false ∧ W.frozen? ⟨V, 1, none⟩ = false := ⟨by rw [cell_of h.box]; rfl, by rw [cell_of h.box]; rfl, frozen_of h.box 0, frozen_of h.box 1⟩
theorem old (h : Ps w S G t V seed bs v W) : Below w.heap.size w W := h.at_.old.2
theorem slice (h : Ps w S G t V seed bs v W) : ∃ a c, v = .slice a (8 * bs.length) c := by
  obtain ⟨a, c, hv, _⟩ := h.q.slice
  rw [ub_len] at hv
  exact ⟨a, c, hv⟩
/-- behind the two News. -/
theorem start {w1 w2 : World} {a : Option Addr} {k m : Nat} (hw : seed < 18446744073709551616) (h1 : At w S G (mixF seed) (List.replicate m 0) w1) (hb : Below w1.heap.size w1 w2) (hq : Q eb w2 (.slice a (8 * m) k) (List.replicate (8 * m) 0)) (hk : ∀ b, (Value.slice a (8 * m) k).ownBlock = some b → w1.heap.size ≤ b) (hm : 0 < m) :
    Ps w S G (mixF seed) w2.heap.size seed (List.replicate m 0) (.slice a (8 * m) k) (w2.alloc (.cells #[.slice a (8 * m) k, .int .u64 (seed : Int)] 29)) := by
  have hl := h1.lts
  have hz := hb.size
  have hz1 := h1.old.2.size
  have hba : Below w2.heap.size w2 (w2.alloc (.cells #[.slice a (8 * m) k, .int .u64 (seed : Int)] 29)) := (Below.refl _ _).alloc (Nat.le_refl _) _
  refine ⟨(h1.below hb).below hba, ?_, fun b hb' => ?_, heap_next rfl _, by omega, rfl, hw, by omega⟩
  · rw [ub_zeros]; exact hq.below hba
  · have h2 := hk b hb'
    have h3 : b < w2.heap.size := by
      rcases hq with ⟨hv, h0⟩ | ⟨b2, o2, c2, hv, hc, hi⟩
      · simp [hv, Value.ownBlock] at hb'
      · rw [hv] at hb'
        simp [Value.ownBlock] at hb'
        subst hb'
        exact World.block_lt_of_cell? w2 ⟨b2, o2 + 0, none⟩ (hi 0 (by simp; omega))
    exact ⟨by omega, by omega⟩
end Ps
end Go.Proofs.YtmfdobppihjjkaaDoor
