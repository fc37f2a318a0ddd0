/-
  PoolApart, its state: what is read of the buffers that are out.
-/
import Derived.Test.YtkobbilcpgffeaaApart
namespace Go.Proofs.Ytkobbilcpgffeaa.st
open Go.RowKit
theorem chl_all : ∀ a : Fin 30, ∀ b : Fin 30, (ch a.1).toList = (ch b.1).toList → a = b := by decide +kernel
theorem chl_inj {a b : Nat} (ha : a < 30) (hb : b < 30) (h : (ch a).toList = (ch b).toList) : a = b := by
  have := chl_all ⟨a, ha⟩ ⟨b, hb⟩ h
  injection this
namespace Sa
variable {w W : World} {N room spare made n i : Nat} {os : List (Nat × Nat)} {E : Nat → Prop} {s q cp : Nat}
theorem cells (h : Sa w N room spare made n i (.slice (some ⟨s, 0, none⟩) q cp) (os.map (·.1)) os E W) (hq : os.length = q) (j : Nat) (hj : j < os.length) : W.cell? ⟨s, j, none⟩ = some (.slice (some ⟨os[j].1, 0, none⟩) room room) ∧ ∀ k, k < room → W.cell? ⟨os[j].1, k, none⟩ = some (.string (ch os[j].2)) := by
  obtain ⟨s', cp', hv, _, hc⟩ := h.some_ (by rw [List.length_map]; omega)
  simp only [Value.slice.injEq, Option.some.injEq, Addr.mk.injEq, and_true] at hv
  obtain ⟨rfl, _, rfl⟩ := hv
  have h1 := hc j (by rw [List.length_map]; exact hj)
  rw [List.getElem_map] at h1
  exact ⟨h1, fun k hk => (h.full _ (List.getElem_mem hj)).cell hk⟩
/-- one of those that are out. -/
theorem look (h : Sa w N room spare made n i (.slice (some ⟨s, 0, none⟩) q cp) (os.map (·.1)) os E W) (hq : os.length = q) (j : Nat) (hj : j < q) : ∃ (g : Nat) (x : ByteArray), W.cell? ⟨s, j, none⟩ = some (.slice (some ⟨g, 0, none⟩) room room) ∧ ∀ k, k < room → W.cell? ⟨g, k, none⟩ = some (.string x) :=
  ⟨_, _, h.cells hq j (by omega)⟩
/-- two of them: they have unlike letters. -/
theorem look2 (h : Sa w N room spare made n i (.slice (some ⟨s, 0, none⟩) q cp) (os.map (·.1)) os E W) (hq : os.length = q) (hi : i ≤ 30) (j k : Nat) (hjk : j < k) (hk : k < q) : ∃ (g g' : Nat) (x x' : ByteArray), W.cell? ⟨s, j, none⟩ = some (.slice (some ⟨g, 0, none⟩) room room) ∧ W.cell? ⟨s, k, none⟩ = some (.slice (some ⟨g', 0, none⟩) room room) ∧ W.cell? ⟨g, 0, none⟩ = some (.string x) ∧ W.cell? ⟨g', 0, none⟩ = some (.string x') ∧ (x.toList == x'.toList) = false := by
  have hl := h.has.lids
  obtain ⟨h1, h2⟩ := h.cells hq j (by omega)
  obtain ⟨h3, h4⟩ := h.cells hq k (by omega)
  refine ⟨_, _, _, _, h1, h3, h2 0 (by omega), h4 0 (by omega), beq_eq_false_iff_ne.2 fun e => ?_⟩
  have e1 := chl_inj (by have := (h.low _ (List.getElem_mem (show j < os.length by omega))).2; omega) (by have := (h.low _ (List.getElem_mem (show k < os.length by omega))).2; omega) e
  have hN := h.other
  have e2 : (os.map (·.2))[j]'(by rw [List.length_map]; omega) = (os.map (·.2))[k]'(by rw [List.length_map]; omega) := by rw [List.getElem_map, List.getElem_map]; exact e1
  exact List.pairwise_iff_getElem.1 hN j k _ _ hjk e2
end Sa
end Go.Proofs.Ytkobbilcpgffeaa.st
