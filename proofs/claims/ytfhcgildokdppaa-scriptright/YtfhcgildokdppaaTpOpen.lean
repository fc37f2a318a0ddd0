/-
  What came in as a slice of bytes, and as a slice of ints: as numbers.
-/
import Derived.Test.YtfhcgildokdppaaTpTp
import Derived.OpenShut
import Derived.ChangeSlices
import Derived.WalkKit
import Derived.ProofKit
namespace Go.Proofs.Ytfhcgildokdppaa.tp
open Go.ChangeShapes Go.WideShapes Go.ChangeAt Go.RowKit
theorem add_plain (b o i : Nat) : (⟨b, o, none⟩ : Addr).add i = ⟨b, o + i, none⟩ := by simp [Addr.add]
/-- the slice that came in: nil, or a row of cells that reads as zs. -/
def IsRow (k : IntKind) (w : World) (a : Option Addr) (len cap : Nat) (zs : List Int) : Prop :=
  (a = none ∧ len = 0 ∧ cap = 0 ∧ zs = []) ∨
  ∃ x, a = some x ∧ len ≤ cap ∧ len ≤ zs.length ∧ (∀ i, i < zs.length → w.cell? (x.add i) = some (.int k (zs.getD i 0))) ∧ ∀ n ∈ zs, (Lit.int k n).wf = true
theorem bytes_of {w : World} {a : Option Addr} {len cap : Nat} {zs : List Int} (h : IsRow .u8 w a len cap zs) : ∃ bs : List Nat, bs.length = len ∧ La e8 w a bs ∧ Bs bs ∧ (a = none → bs = [] ∧ cap = 0) ∧ len ≤ cap := by
  rcases h with ⟨rfl, rfl, rfl, rfl⟩ | ⟨x, rfl, hl, hz, hcell, hw⟩
  · exact ⟨[], rfl, La.nil _ _, fun _ h => (by cases h), fun _ => ⟨rfl, rfl⟩, Nat.le_refl _⟩
  · refine ⟨(zs.take len).map Int.toNat, by simp [hz], fun h0 => ?_, fun b hb => ?_, fun h => (by cases h), hl⟩
    · obtain ⟨b, off, spot⟩ := x
      simp at h0
      have hspot : spot = none := by
        have := hcell 0 (by omega)
        simpa [Addr.add] using World.cell?_spot this
      subst hspot
      refine ⟨b, off, rfl, fun i hi => ?_⟩
      simp at hi
      have hi2 : i < zs.length := by omega
      have h1 := hcell i hi2
      rw [add_plain, List.getD_eq_getElem?_getD, List.getElem?_eq_getElem hi2] at h1
      have h3 := Go.bounds_u8 (hw zs[i] (List.getElem_mem hi2))
      rw [h1]
      simp [e8]
      omega
    · obtain ⟨n, hn, rfl⟩ := List.mem_map.mp hb
      have h3 := Go.bounds_u8 (hw n (List.mem_of_mem_take hn))
      omega
theorem ints_of {w : World} {a : Option Addr} {len cap : Nat} {zs : List Int} (h : IsRow .i64 w a len cap zs) : ∃ ls : List Int, ls.length = len ∧ La eI w a ls ∧ ∀ x ∈ ls, -9223372036854775808 ≤ x ∧ x < 9223372036854775808 := by
  rcases h with ⟨rfl, rfl, rfl, rfl⟩ | ⟨x, rfl, hl, hz, hcell, hw⟩
  · exact ⟨[], rfl, La.nil _ _, fun _ h => (by cases h)⟩
  · refine ⟨zs.take len, by simp [hz], fun h0 => ?_, fun n hn => ?_⟩
    · obtain ⟨b, off, spot⟩ := x
      simp at h0
      have hspot : spot = none := by
        have := hcell 0 (by omega)
        simpa [Addr.add] using World.cell?_spot this
      subst hspot
      refine ⟨b, off, rfl, fun i hi => ?_⟩
      simp at hi
      have hi2 : i < zs.length := by omega
      have h1 := hcell i hi2
      rw [add_plain, List.getD_eq_getElem?_getD, List.getElem?_eq_getElem hi2] at h1
      rw [h1]
      simp
    · have h3 := Go.bounds_i64 (hw n (List.mem_of_mem_take hn))
      omega
/-- a slice of numbers, opened. -/
theorem row_of {H : Type} {enc : TypeId × Value → H} {W : World} {held : Bool} {fuel : Nat} {t e : TypeId} {k : IntKind} {a : Option Addr} {len cap : Nat} {x : DataW H × List MemPlace} (ht : Try.prog.underlying t = some (.slice e)) (he : Try.prog.underlying e = some (.int k)) (hc : Try.prog.cellsOf e = 1)
    (hf : DataW.trod enc Try.prog W 0 (fun _ => true) held fuel t (Value.slice a len cap).cells.toList = some x) : ∃ zs, IsRow k W a len cap zs := by
  rcases open_ints ht he hc hf with ⟨hcs, _⟩ | ⟨p, l, c, zs, hcs, _, hl, hm, hz, _, hcell, hwz⟩
  · simp [Value.cells] at hcs
    obtain ⟨rfl, rfl, rfl⟩ := hcs
    exact ⟨[], .inl ⟨rfl, rfl, rfl, rfl⟩⟩
  · simp [Value.cells] at hcs
    obtain ⟨rfl, rfl, rfl⟩ := hcs
    exact ⟨zs, .inr ⟨_, rfl, hl, by simp at hz; omega, hcell, hwz⟩⟩
end Go.Proofs.Ytfhcgildokdppaa.tp
