/-
  Of no function: slices of ints that are read ('Row'); a variable's box and what is appended to the slice in it.
-/
import Derived.Test.YtgkiekidmadabaaLaid
import Derived.Maps.AppendAt
namespace Go.Proofs.Ytgkiekidmadabaa
open Go.RowKit
/-- the slice v reads as l. -/
def Row (w : World) (v : Value) (l : List Int) : Prop := ∃ a cap, v = .slice a l.length cap ∧ l.length ≤ cap ∧ (0 < l.length → ∃ b o, a = some ⟨b, o, none⟩ ∧ ∀ i (h : i < l.length), w.cell? ⟨b, o + i, none⟩ = some (.int .i64 l[i]))
theorem Row.keep {w w' : World} {v : Value} {l : List Int} (h : Row w v l) (hk : ∀ b o i x, w.cell? ⟨b, o + i, none⟩ = some x → v.ownBlock = some b → w'.cell? ⟨b, o + i, none⟩ = some x) : Row w' v l := by
  obtain ⟨a, cap, rfl, hc, hr⟩ := h
  refine ⟨a, cap, rfl, hc, fun hl => ?_⟩
  obtain ⟨b, o, rfl, hi⟩ := hr hl
  exact ⟨b, o, rfl, fun i h => hk b o i _ (hi i h) rfl⟩
theorem Row.below {w w' : World} {v : Value} {l : List Int} (h : Row w v l) (hb : Below w.heap.size w w') : Row w' v l := h.keep fun b o i _ hx _ => (hb.cell (p := ⟨b, o + i, none⟩) (World.block_lt_of_cell? w ⟨b, o + i, none⟩ hx)).trans hx
theorem Row.nil (w : World) : Row w (.slice none 0 0) [] := ⟨none, 0, rfl, Nat.le_refl _, fun h => absurd h (by simp)⟩
theorem Row.of_own {w : World} {base : Nat} {v : Value} {l : List Int} (h : w.ownsRow base 3 1 v l.length (l.map (Value.int .i64))) : Row w v l := by
  rcases h.2 with ⟨rfl, h0⟩ | ⟨g, cap, cur, rfl, _, _, hc, _⟩
  · have hl : l = [] := List.eq_nil_of_length_eq_zero h0
    subst hl
    exact Row.nil w
  · refine ⟨_, cap, rfl, hc, fun _ => ⟨g, 0, rfl, fun i hi => ?_⟩⟩
    have := h.cells (g := g) rfl i (.int .i64 l[i]) (by simp [hi])
    rwa [Addr.add_lit] at this
theorem own_keep {w w' : World} {base : Nat} {e : TypeId} {size : Nat} {v : Value} {n : Nat} {xs : List Value} (h : w.ownsRow base e size v n xs) (hk : ∀ g, v.ownBlock = some g → w'.heap[g]? = w.heap[g]?) : w'.ownsRow base e size v n xs := by
  refine ⟨h.1, ?_⟩
  rcases h.2 with h0 | ⟨g, cap, cur, rfl, hb, hh, hr⟩
  · exact .inl h0
  · exact .inr ⟨g, cap, cur, rfl, hb, (hk g rfl).trans hh, hr⟩
theorem own_slice {w : World} {base : Nat} {e : TypeId} {size : Nat} {v : Value} {n : Nat} {xs : List Value} (h : w.ownsRow base e size v n xs) : ∃ a cap, v = .slice a n cap := by
  rcases h.2 with ⟨rfl, rfl⟩ | ⟨g, cap, cur, rfl, _⟩
  · exact ⟨_, _, rfl⟩
  · exact ⟨_, _, rfl⟩
theorem put_out {A : World} {base b1 : Nat} {v : Value} {i : Nat} {l : List Value} (hv : Boxed A b1 26 v) (hrow : A.ownsRow base 3 1 v i l) (hb : base ≤ A.heap.size) (hi : i ≤ 1000000) (x : Int) :
    ∃ w1 g cap, (Builtin.append_ #[26, 26] 26 #[v, .slice (some ⟨A.heap.size, 0, none⟩) 1 1]).run Try.prog (A.alloc (.cells #[.int .i64 x] 3)) = .ok (.slice (some ⟨g, 0, none⟩) (i + 1) cap) w1 ∧ (v.ownBlock = some g ∨ A.heap.size ≤ g) ∧ w1.cell? ⟨b1, 0, none⟩ = some v ∧ w1.frozen? ⟨b1, 0, none⟩ = false ∧
      Boxed (w1.setCell ⟨b1, 0, none⟩ (.slice (some ⟨g, 0, none⟩) (i + 1) cap)) b1 26 (.slice (some ⟨g, 0, none⟩) (i + 1) cap) ∧ (w1.setCell ⟨b1, 0, none⟩ (.slice (some ⟨g, 0, none⟩) (i + 1) cap)).ownsRow base 3 1 (.slice (some ⟨g, 0, none⟩) (i + 1) cap) (i + 1) (l ++ [.int .i64 x]) ∧
      (∀ K : Nat → Prop, ¬ K b1 → (∀ g, v.ownBlock = some g → ¬ K g) → Keep K A (w1.setCell ⟨b1, 0, none⟩ (.slice (some ⟨g, 0, none⟩) (i + 1) cap))) := by
  obtain ⟨i0, hi0, hz0, hz1, hz2⟩ := info_parts info_el
  have hcell : ∀ j u, [Value.int .i64 x][j]? = some u → (A.alloc (.cells #[.int .i64 x] 3)).cell? ((⟨A.heap.size, 0, none⟩ : Addr).add j) = some u := cell_one_new _ _ _
  have hmax : maxLen = 9223372036854775807 := by decide
  obtain ⟨v', w1, hr, hown, hgrow, _⟩ := run_append_own (P := Try.prog) (A.alloc (.cells #[.int .i64 x] 3)) base 26 26 3 i0 (.int .i64 0) 1 8 Try.underlying26 hi0 hz0 hz1 hz2 rfl (by decide) v i l (hrow.alloc _) ⟨A.heap.size, 0, none⟩ 1 1 [.int .i64 x] rfl hcell (by simp [Value.oneCell']) (by omega) (by omega) (by simp; omega)
  have hv' : ∃ g cap, v' = .slice (some ⟨g, 0, none⟩) (i + 1) cap ∧ (v.ownBlock = some g ∨ A.heap.size ≤ g) := by
    rcases hrow.2 with ⟨rfl, rfl⟩ | ⟨g, cap, cur, rfl, hbg, hg, hnc, hcm, hcs, htake⟩
    · have hn := run_append_nil (P := Try.prog) (A.alloc (.cells #[.int .i64 x] 3)) 26 26 3 i0 (.int .i64 0) Try.underlying26 hi0 hz0 ⟨A.heap.size, 0, none⟩ 1 1 [.int .i64 x] (by rw [hz1]; rfl) hcell (by omega) (by omega) (by omega)
      rw [hr] at hn
      injection hn with hn _
      exact ⟨_, _, hn, .inr (by simp)⟩
    · by_cases hroom : i + 1 ≤ cap
      · have hn := run_append_room (P := Try.prog) (A.alloc (.cells #[.int .i64 x] 3)) 26 26 3 i0 Try.underlying26 hi0 g i cap cur (heap_old hg) ⟨A.heap.size, 0, none⟩ 1 1 [.int .i64 x] (by rw [hz1]; rfl) hcell (by simp [Value.oneCell']) hroom (by rw [hz1, hcs]; simp; omega)
        rw [hr] at hn
        injection hn with hn _
        exact ⟨_, _, hn, .inl rfl⟩
      · have hn := run_append_grow (P := Try.prog) (A.alloc (.cells #[.int .i64 x] 3)) 26 26 3 i0 (.int .i64 0) Try.underlying26 hi0 hz0 ⟨g, 0, none⟩ i cap l (by rw [hz1]; exact hrow.1) ((hrow.alloc _).cells (g := g) rfl) ⟨A.heap.size, 0, none⟩ 1 1 [.int .i64 x] (by rw [hz1]; rfl) hcell (by omega) (by omega) (growslice_fits (by omega) (by rw [hz2]; omega))
        rw [hr] at hn
        injection hn with hn _
        exact ⟨_, _, hn, .inr (by simp)⟩
  obtain ⟨g, cap, rfl, hg⟩ := hv'
  have k1 : Boxed w1 b1 26 v := (hv.alloc _).kept hgrow (hv.not_row (by decide) hrow)
  have k2 := k1.set (.slice (some ⟨g, 0, none⟩) (i + 1) cap)
  have k3 : (w1.setCell ⟨b1, 0, none⟩ (.slice (some ⟨g, 0, none⟩) (i + 1) cap)).ownsRow base 3 1 (.slice (some ⟨g, 0, none⟩) (i + 1) cap) (i + 1) (l ++ [.int .i64 x]) := hown.kept (grownBy_setCell' w1 b1 _) (.inr (k1.not_row (by decide) hown).symm)
  refine ⟨w1, g, cap, hr, hg, k1.cell, k1.frozen, k2, k3, fun K hK1 hK2 => ?_⟩
  exact ((Keep.alloc K A _).trans (Keep.grown hgrow hK2)).trans (Keep.setCell _ _ _ hK1)
end Go.Proofs.Ytgkiekidmadabaa
