/-
  What came in as a slice of bytes, and as a word: as numbers.
-/
import Derived.Test.YtjigobalghckdaaSums
import Derived.OpenShut
import Derived.ProofKit
namespace Go.Proofs.Ytjigobalghckdaa
open Go.ChangeShapes Go.WideShapes Go.ChangeAt Go.RowKit
theorem u64_nat {n : Int} (h : (Lit.int .u64 n).wf = true) : ∃ m : Nat, n = (m : Int) ∧ m < 18446744073709551616 := by
  have := Go.bounds_u64 h
  exact ⟨n.toNat, by omega, by omega⟩
theorem u8_nat {n : Int} (h : (Lit.int .u8 n).wf = true) : ∃ m : Nat, n = (m : Int) ∧ m < 256 := by
  have := Go.bounds_u8 h
  exact ⟨n.toNat, by omega, by omega⟩
theorem bytes_row {w : World} {x : Addr} {len cap : Nat} {zs : List Int} (hl : len ≤ cap) (hz : zs.length = cap) (hc : ∀ i, i < zs.length → w.cell? (x.add i) = some (.int .u8 (zs.getD i 0))) (hw : ∀ n ∈ zs, (Lit.int .u8 n).wf = true) :
    ∃ l, Row w (some x) len l ∧ bytes l ∧ len ≤ cap := by
  refine ⟨(zs.take len).map Int.toNat, ⟨by rw [List.length_map, List.length_take]; omega, fun h0 => ?_⟩, fun b hb => ?_, hl⟩
  · obtain ⟨b, off, rfl, hc'⟩ := ints_at hc (by omega)
    refine ⟨b, off, rfl, fun i hi => ?_⟩
    have hi' : i < zs.length := by omega
    rw [hc' i hi']
    have e1 : zs.getD i 0 = zs[i] := by simp [List.getD, hi']
    have e2 : ((zs.take len).map Int.toNat).getD i 0 = zs[i].toNat := by simp [List.getD, hi, hi']
    have h3 := Go.bounds_u8 (hw zs[i] (List.getElem_mem hi'))
    rw [e1, e2, Int.toNat_of_nonneg h3.1]
  · obtain ⟨n, hn, rfl⟩ := List.mem_map.mp hb
    have h3 := Go.bounds_u8 (hw n (List.mem_of_mem_take hn))
    omega
/-- the slice of bytes that came in: nil, or a row of cap cells that reads as zs. -/
def IsRow (k : IntKind) (w : World) (a : Option Addr) (len cap : Nat) (zs : List Int) : Prop :=
  (a = none ∧ len = 0 ∧ cap = 0 ∧ zs = []) ∨
  ∃ x, a = some x ∧ len ≤ cap ∧ cap ≤ maxLen ∧ zs.length = cap ∧ (∀ i, i < zs.length → w.cell? (x.add i) = some (.int k (zs.getD i 0))) ∧ ∀ n ∈ zs, (Lit.int k n).wf = true
theorem row_of {w : World} {a : Option Addr} {len cap : Nat} {zs : List Int} (h : IsRow .u8 w a len cap zs) : ∃ l, Row w a len l ∧ bytes l ∧ len ≤ cap := by
  rcases h with ⟨rfl, rfl, rfl, rfl⟩ | ⟨x, rfl, hl, hm, hz, hc, hw⟩
  · exact ⟨[], Row.none_ _ _, fun _ h => (by cases h), Nat.le_refl _⟩
  · exact bytes_row hl (by omega) hc hw
end Go.Proofs.Ytjigobalghckdaa
