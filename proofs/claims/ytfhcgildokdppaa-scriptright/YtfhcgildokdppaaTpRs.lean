/-
  Rest of package tape by its contract, for every tape; a slice of bytes as a string.
-/
import Derived.Test.YtfhcgildokdppaaTpTi
import Derived.Laws.IdiomStrings
import Derived.Laws.BytesArg
namespace Go.Proofs.Ytfhcgildokdppaa.tp
open Go.RowKit
theorem elem22 : Try.prog.underlying 35 = some (.slice (Try.prog.elem 35)) := by kernel_rfl
theorem size22 (w : World) : (sizeOf (Try.prog.elem 35)).run Try.prog w = .ok 1 w := by kernel_rfl
/-- 'x[k:]' of bytes: where what is behind lies. -/
theorem cut_l (q : Option Addr) (n cap k : Nat) (hk : k ≤ n) (hc : n ≤ cap) : ∃ p, (∀ W', (Instr.slice 35 (.slice q n cap) (some (.int .i64 (k : Int))) none none).run Try.prog W' = .ok (.slice p (n - k) (cap - k)) W') ∧ (∀ b o, q = some ⟨b, o, none⟩ → k < n → p = some ⟨b, o + k, none⟩) ∧ (q = none → p = none) ∧ (p = none → q = none) := by
  cases q with
  | none =>
    refine ⟨none, fun W' => ?_, fun _ _ h => (by cases h), fun _ => rfl, fun _ => rfl⟩
    rw [run_slice_l W' 35 none n cap elem22 .i64 (k : Int) (by omega) (by omega), size22]
    simp [sliced]
  | some x =>
    refine ⟨some (if cap = k then x else x.add k), fun W' => ?_, fun b' o' h hlt => ?_, fun h => (by cases h), fun h => (by cases h)⟩
    · rw [run_slice_l W' 35 (some x) n cap elem22 .i64 (k : Int) (by omega) (by omega), size22]
      by_cases h : cap = k <;> simp [sliced, h]
    · obtain rfl : x = ⟨b', o', none⟩ := by simpa using h
      rw [if_neg (by omega)]
      simp [Addr.add]
theorem La.drop {w : World} {q p : Option Addr} {bs : List Nat} (h : La e8 w q bs) (k : Nat) (hp : ∀ b o, q = some ⟨b, o, none⟩ → k < bs.length → p = some ⟨b, o + k, none⟩) : La e8 w p (bs.drop k) := fun h0 => by
  rw [List.length_drop] at h0
  obtain ⟨b, o, rfl, hi⟩ := h (by omega)
  refine ⟨b, o + k, hp b o rfl (by omega), fun i hi' => ?_⟩
  rw [List.length_drop] at hi'
  rw [Nat.add_assoc, hi (k + i) (by omega), List.getElem_drop]
/-- the string of bytes l. -/
def str (l : List Nat) : ByteArray := strOfNums (l.map fun n : Nat => (n : Int))
/-- 'string(b)'. -/
theorem string_of {w : World} {a : Option Addr} {l : List Nat} (cap : Nat) (h : La e8 w a l) : (convert 35 9 (.slice a l.length cap)).run Try.prog w = .ok (.string (str l)) w := by
  rcases Nat.eq_zero_or_pos l.length with h0 | h0
  · obtain rfl := List.eq_nil_of_length_eq_zero h0
    cases a with
    | none => exact run_convert_bytes_nil w 35 5 Try.underlying35 Try.underlying5 0 cap 9 Try.underlying9
    | some x => exact run_convert_bytes_back w 35 9 5 x cap [] Try.underlying35 Try.underlying5 Try.underlying9 (fun j hj => absurd hj (Nat.not_lt_zero j))
  · obtain ⟨b, o, rfl, hi⟩ := h h0
    exact run_convert_bytes_arg w 35 5 Try.underlying35 Try.underlying5 b o l.length cap (l.map fun n : Nat => (n : Int)) (by rw [List.length_map]) (fun i hi' => by rw [hi i hi']; simp [hi']) 9 Try.underlying9
/-- what Rest leaves behind. -/
def Rd (w : World) (D cap : Nat) (q : Option Addr) (bs : List Nat) (a : Nat) (r : Option Addr) (B : World) : Prop := Go1 76 cap w D q bs bs.length B ∧ La e8 B r (bs.drop a) ∧ (∀ b o, r = some ⟨b, o, none⟩ → w.heap.size ≤ b)
end Go.Proofs.Ytfhcgildokdppaa.tp
