/-
  Text of fnv's reference by its contract; a slice of bytes as a string, a string as a slice of bytes; a slice that stays as it was while memory is laid anew.
-/
import Derived.Test.YtmjcdondogpceaaDoorFnFnv
import Derived.OpenShut
import Derived.ProofKit
namespace Go.Proofs.YtmjcdondogpceaaDoor.fn
open Go.ChangeShapes Go.WideShapes Go.ChangeAt Go.RowKit
/-- the bytes of a string, laid in memory anew. -/
theorem string_row (s : ByteArray) (l : List Nat) (hc : Codes s l) (w : World) (cap : Nat) (fr : Nat × Nat) : Row (w.drew.alloc (.cells (bytesRow s cap) 5 fr)) (some ⟨w.heap.size, 0, none⟩) s.size l := by
  refine ⟨hc.1, fun _ => ⟨w.heap.size, 0, rfl, fun i hi => ?_⟩⟩
  have h1 := World.cell?_alloc_mark w.drew (bytesRow s cap) 5 fr (0 + i)
  have h2 := bytesRow_at s cap i hi
  have h3 := hc.2 i hi
  rw [Nat.zero_add] at *
  refine h1.trans (h2.trans ?_)
  rw [← h3]
  rfl
theorem reftext_go (s : ByteArray) (l : List Nat) (w : World) (hr : Codes s l) (hl : bytes l) (hn : s.size ≤ 4611686018427387904) (cap : Nat) (fr : Nat × Nat) :
    Calls Tryd.prog 41 #[.int .u64 14695981039346656037, .slice (some ⟨w.heap.size, 0, none⟩) s.size cap] (w.drew.alloc (.cells (bytesRow s cap) 5 fr)) fun e w' => e = .returned (.int .u64 (gon 14695981039346656037 l : Nat)) ∧ Below w.heap.size w w' :=
  (refgo_any 14695981039346656037 _ s.size cap l _ (by decide) (string_row s l hr w cap fr) hl hn).mono fun _ _ ⟨he, hw⟩ => ⟨he, hw ▸ (Below.refl _ _).drew.alloc (Nat.le_refl _) _⟩
theorem reftext_any (s : ByteArray) (l : List Nat) (w : World) (hr : Codes s l) (hl : bytes l) (hn : s.size ≤ 4611686018427387904) :
    Calls Tryd.prog 24 #[.string s] w fun e w' => e = .returned (.int .u64 (gon 14695981039346656037 l : Nat)) ∧ Below w.heap.size w w' := by
  have HG := Lib.hid (reftext_go s l w hr hl hn)
  have hcv := run_bytes_of_string (P := Tryd.prog) w 9 22 5 s Tryd.underlying9 Tryd.underlying22 Tryd.underlying5
  clear hr hl
  go_enter Tryd.func24, Tryd.ntmps24
  go_wp2_with fail
  refine (HG.out _ _).mono ?_
  rintro e w1 ⟨rfl, b1⟩
  go_wp2
  go_ret
  exact ⟨rfl, b1⟩
/-- the string of bytes l. -/
def str (l : List Nat) : ByteArray := strOfNums (l.map fun n : Nat => (n : Int))
theorem str_size (l : List Nat) : (str l).size = l.length := by unfold str; rw [strOfNums_size, List.length_map]
theorem str_codes (l : List Nat) (hl : bytes l) : Codes (str l) l := by
  refine ⟨(str_size l).symm, fun i h => ?_⟩
  have hi : i < l.length := by rw [← str_size l]; exact h
  have hb := bytes_get hl i
  have e : (str l)[i]'h = UInt8.ofNat (l.getD i 0) := by
    show (str l).data[i]'h = _
    simp [str, strOfNums, hi]
  rw [e, UInt8.toNat_ofNat']
  exact Nat.mod_eq_of_lt hb
/-- 'string(b)'. -/
theorem string_of_row (w : World) (a : Option Addr) (n cap : Nat) (l : List Nat) (h : Row w a n l) : (convert 22 9 (.slice a n cap)).run Tryd.prog w = .ok (.string (str l)) w := by
  have hm : ∀ i, ((l.map fun n : Nat => (n : Int)).getD i 0) = ((l.getD i 0 : Nat) : Int) := fun i => by
    by_cases hi : i < l.length <;> simp [hi]
  rcases Nat.eq_zero_or_pos n with h0 | h0
  · subst h0
    obtain rfl : l = [] := List.eq_nil_of_length_eq_zero h.1
    cases a with
    | none => exact run_convert_bytes_nil w 22 5 Tryd.underlying22 Tryd.underlying5 0 cap 9 Tryd.underlying9
    | some x => exact run_convert_bytes_back w 22 9 5 x cap [] Tryd.underlying22 Tryd.underlying5 Tryd.underlying9 (fun j hj => absurd hj (Nat.not_lt_zero j))
  · obtain ⟨b, off, rfl, hc⟩ := h.2 h0
    exact run_convert_bytes_arg w 22 5 Tryd.underlying22 Tryd.underlying5 b off n cap (l.map fun n : Nat => (n : Int)) (by rw [List.length_map]; exact h.1) (fun i hi => by rw [hm]; exact hc i hi) 9 Tryd.underlying9
theorem bnext {B : Nat} {w w1 w2 : World} (h : Below B w w1) (h2 : Below w1.heap.size w1 w2) (hB : B ≤ w1.heap.size := by exact Below.size ‹_›) : Below B w w2 := h.trans (h2.mono hB)
theorem cell_lt {w : World} {a : Addr} {v : Value} (h : w.cell? a = some v) : a.block < w.heap.size := by
  rcases Nat.lt_or_ge a.block w.heap.size with h' | h'
  · exact h'
  · have : w.heap[a.block]? = none := by simp [h']
    simp [World.cell?, this] at h
theorem Row.lt {w : World} {a : Option Addr} {n : Nat} {l : List Nat} (h : Row w a n l) (hn : 0 < n) : ∀ x, a = some x → x.block < w.heap.size := by
  obtain ⟨b, off, rfl, hc⟩ := h.2 hn
  intro x hx
  injection hx with hx
  subst hx
  exact cell_lt (hc 0 hn)
theorem Row.below {w w' : World} {a : Option Addr} {n : Nat} {l : List Nat} (h : Row w a n l) (hb : Below w.heap.size w w') : Row w' a n l := by
  refine ⟨h.1, fun hn => ?_⟩
  have ha := h.lt hn
  obtain ⟨b, off, rfl, hcell⟩ := h.2 hn
  exact ⟨b, off, rfl, fun i hi => (hb.cell (p := ⟨b, off + i, none⟩) (show b < w.heap.size from ha ⟨b, off, none⟩ rfl)).trans (hcell i hi)⟩
theorem Row.none_ (w : World) (a : Option Addr) : Row w a 0 [] := ⟨rfl, fun h => absurd h (by omega)⟩
theorem u64_nat {n : Int} (h : (Lit.int .u64 n).wf = true) : ∃ m : Nat, n = (m : Int) ∧ m < 18446744073709551616 := by
  have := Go.bounds_u64 h
  exact ⟨n.toNat, by omega, by omega⟩
theorem bytes_row {w : World} {x : Addr} {len cap : Nat} {zs : List Int} (hl : len ≤ cap) (hz : zs.length = cap) (hc : ∀ i, i < zs.length → w.cell? (x.add i) = some (.int .u8 (zs.getD i 0))) (hw : ∀ n ∈ zs, (Lit.int .u8 n).wf = true) :
    ∃ l, Row w (some x) len l ∧ bytes l ∧ len ≤ cap := by
  refine ⟨(zs.take len).map Int.toNat, ⟨by rw [List.length_map, List.length_take]; omega, fun h0 => ?_⟩, fun b hb => ?_, hl⟩
  · obtain ⟨b, off, rfl, hc'⟩ := ints_at hc (by omega)
    refine ⟨b, off, rfl, fun i hi => ?_⟩
    have hi' : i < zs.length := by omega
    rw [hc' i hi']
    have e1 : zs.getD i 0 = zs[i] := by simp [List.getD, hi']
    have e2 : ((zs.take len).map Int.toNat).getD i 0 = zs[i].toNat := by simp [List.getD, hi, hi']
    have h3 := Go.bounds_u8 (hw zs[i] (List.getElem_mem hi'))
    rw [e1, e2, Int.toNat_of_nonneg h3.1]
  · obtain ⟨n, hn, rfl⟩ := List.mem_map.mp hb
    have h3 := Go.bounds_u8 (hw n (List.mem_of_mem_take hn))
    omega
/-- the slice of bytes that came in: nil, or a row of cap cells that reads as zs. -/
def IsRow (k : IntKind) (w : World) (a : Option Addr) (len cap : Nat) (zs : List Int) : Prop :=
  (a = none ∧ len = 0 ∧ cap = 0 ∧ zs = []) ∨
  ∃ x, a = some x ∧ len ≤ cap ∧ cap ≤ maxLen ∧ zs.length = cap ∧ (∀ i, i < zs.length → w.cell? (x.add i) = some (.int k (zs.getD i 0))) ∧ ∀ n ∈ zs, (Lit.int k n).wf = true
theorem row_of {w : World} {a : Option Addr} {len cap : Nat} {zs : List Int} (h : IsRow .u8 w a len cap zs) : ∃ l, Row w a len l ∧ bytes l ∧ len ≤ cap := by
  rcases h with ⟨rfl, rfl, rfl, rfl⟩ | ⟨x, rfl, hl, hm, hz, hc, hw⟩
  · exact ⟨[], Row.none_ _ _, fun _ h => (by cases h), Nat.le_refl _⟩
  · exact bytes_row hl (by omega) hc hw
end Go.Proofs.YtmjcdondogpceaaDoor.fn
