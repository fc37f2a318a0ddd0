/-
  Inverse of package mix, Back of package fnv, Text of the reference, and the laws' own question whether the program answers, by their contracts; a slice of bytes as a string.
-/
import Derived.Test.YtjigobalghckdaaFnv
namespace Go.Proofs.Ytjigobalghckdaa
open Go.ChangeShapes Go.WideShapes Go.ChangeAt Go.RowKit
theorem nx_expr (a v : Nat) : IntKind.u64.wrap ((v : Int) * IntKind.u64.wrap (2 - IntKind.u64.wrap ((a : Int) * v))) = ((nx a v : Nat) : Int) := by
  have e1 : IntKind.u64.wrap ((a : Int) * v) = ((a * v % M : Nat) : Int) := by rw [IntKind.wrap_u64]; simp [M]
  have hl : a * v % M < M := Nat.mod_lt _ (by decide)
  rw [e1]
  unfold nx
  generalize a * v % M = c at *
  have e2 : IntKind.u64.wrap (2 - (c : Int)) = (((M + 2 - c) % M : Nat) : Int) := by rw [IntKind.wrap_u64]; unfold M at *; omega
  rw [e2, IntKind.wrap_u64]
  generalize (M + 2 - c) % M = d
  simp [M]
theorem inverse_any (a : Nat) (ha : a < 18446744073709551616) (w : World) :
    Calls Try.prog 13 #[.int .u64 a] w fun e w' => e = .returned (.int .u64 (invN a : Nat)) ∧ w = w' := by
  by_cases h0 : a % 2 = 0
  · have h0' : (a : Int) % 2 = 0 := by omega
    have H := Lib.hid h0
    clear h0
    go_enter Try.func13, Try.ntmps13
    go_wp2
    go_ret
    refine ⟨congrArg Ending.returned (congrArg (Value.int IntKind.u64) ?_), rfl⟩
    unfold invN
    rw [if_pos H.out]
    rfl
  · have h0' : (a : Int) % 2 = 1 := by omega
    have H := Lib.hid h0
    clear h0
    go_enter Try.func13, Try.ntmps13
    go_wp2
    go_loop [3, 4] (fun v r => ∃ j t : Nat, j ≤ 5 ∧ t = 3 * 2 ^ j ∧ r = .int .i64 t ∧ v = .int .u64 (nxi a j : Nat)) (fun _ r => 96 - (intOf r).toNat)
    case atStart => exact ⟨0, 3, by omega, rfl, rfl, rfl⟩
    case round =>
      obtain ⟨j, t, hj, ht, rfl, rfl⟩ := hrel
      have hb : 3 ≤ t ∧ t ≤ 96 ∧ (j < 5 → t < 64) ∧ (j = 5 → t = 96) := by
        subst ht
        rcases (show j = 0 ∨ j = 1 ∨ j = 2 ∨ j = 3 ∨ j = 4 ∨ j = 5 from by omega) with h | h | h | h | h | h <;> subst h <;> decide
      obtain ⟨hb1, hb2, hb3, hb4⟩ := hb
      have HT := Lib.hid ht
      clear ht
      by_cases hlt : j < 5
      · have ht64 := hb3 hlt
        clear hb3 hb4
        have hv := nxi_lt a j ha
        have he := nx_expr a (nxi a j)
        generalize hn : nxi a j = v at *
        have HN := Lib.hid hn
        clear hn
        go_wp2
        go_round
        case rel => exact ⟨j + 1, 2 * t, by omega, by rw [HT.out, Nat.pow_succ]; omega, by go_num, by show _ = Value.int .u64 ((nx a (nxi a j) : Nat) : Int); rw [HN.out]⟩
        case measure => simp [intOf]; omega
      · obtain rfl : j = 5 := by omega
        obtain rfl := hb4 rfl
        clear hb3 hb4
        go_wp2
        go_ret
        refine ⟨congrArg Ending.returned (congrArg (Value.int IntKind.u64) ?_), rfl⟩
        unfold invN
        rw [if_neg H.out]
theorem ba1_expr (h b v : Nat) (hb : b < 256) (hv : invN 1099511628211 = v) : ∃ y : Nat, IntKind.u64.wrap ((h : Int) * (v : Int)) = (y : Int) ∧ y < 18446744073709551616 ∧ bits BinOp.xor IntKind.u64 (y : Int) (b : Int) = ((ba1 h b : Nat) : Int) :=
  ⟨h * v % M, mul_expr _ _, Nat.mod_lt _ (by decide), by rw [ba1_eq, hv]; exact xor_expr _ _ (Nat.mod_lt _ (by decide)) (by omega)⟩
theorem inverse_is (v : Nat) (hv : invN 1099511628211 = v) (w : World) : Calls Try.prog 13 #[.int .u64 1099511628211] w fun e w' => e = .returned (.int .u64 (v : Nat)) ∧ w = w' := by
  rw [← hv]
  exact inverse_any 1099511628211 (by decide) w
theorem back_any (h b : Nat) (hb : b < 256) (w : World) :
    Calls Try.prog 12 #[.int .u64 h, .int .u8 b] w fun e w' => e = .returned (.int .u64 (ba1 h b : Nat)) ∧ w = w' := by
  obtain ⟨v, hv⟩ : ∃ v, invN 1099511628211 = v := ⟨_, rfl⟩
  obtain ⟨y, e1, hy, e2⟩ := ba1_expr h b v hb hv
  have hw : IntKind.u64.wrap (b : Int) = (b : Int) := by rw [IntKind.wrap_u64]; omega
  have HV := Lib.hid hv
  clear hv
  go_enter Try.func12, Try.ntmps12
  go_wp2_with fail
  refine (inverse_is v HV.out _).mono ?_
  rintro e w1 ⟨rfl, rfl⟩
  go_wp2
  go_ret
  exact ⟨rfl, rfl⟩
/-- the bytes of a string, laid in memory anew. -/
theorem string_row (s : ByteArray) (l : List Nat) (hc : Codes s l) (w : World) (cap : Nat) (fr : Nat × Nat) : Row (w.drew.alloc (.cells (bytesRow s cap) 5 fr)) (some ⟨w.heap.size, 0, none⟩) s.size l := by
  refine ⟨hc.1, fun _ => ⟨w.heap.size, 0, rfl, fun i hi => ?_⟩⟩
  have h1 := World.cell?_alloc_mark w.drew (bytesRow s cap) 5 fr (0 + i)
  have h2 := bytesRow_at s cap i hi
  have h3 := hc.2 i hi
  rw [Nat.zero_add] at *
  refine h1.trans (h2.trans ?_)
  rw [← h3]
  rfl
theorem reftext_go (s : ByteArray) (l : List Nat) (w : World) (hr : Codes s l) (hl : bytes l) (hn : s.size ≤ 4611686018427387904) (cap : Nat) (fr : Nat × Nat) :
    Calls Try.prog 8 #[.int .u64 14695981039346656037, .slice (some ⟨w.heap.size, 0, none⟩) s.size cap] (w.drew.alloc (.cells (bytesRow s cap) 5 fr)) fun e w' => e = .returned (.int .u64 (gon 14695981039346656037 l : Nat)) ∧ Below w.heap.size w w' :=
  (refgo_any 14695981039346656037 _ s.size cap l _ (by decide) (string_row s l hr w cap fr) hl hn).mono fun _ _ ⟨he, hw⟩ => ⟨he, hw ▸ (Below.refl _ _).drew.alloc (Nat.le_refl _) _⟩
theorem reftext_any (s : ByteArray) (l : List Nat) (w : World) (hr : Codes s l) (hl : bytes l) (hn : s.size ≤ 4611686018427387904) :
    Calls Try.prog 10 #[.string s] w fun e w' => e = .returned (.int .u64 (gon 14695981039346656037 l : Nat)) ∧ Below w.heap.size w w' := by
  have HG := Lib.hid (reftext_go s l w hr hl hn)
  have hcv := run_bytes_of_string (P := Try.prog) w 9 23 5 s Try.underlying9 Try.underlying23 Try.underlying5
  clear hr hl
  go_enter Try.func10, Try.ntmps10
  go_wp2_with fail
  refine (HG.out _ _).mono ?_
  rintro e w1 ⟨rfl, b1⟩
  go_wp2
  go_ret
  exact ⟨rfl, b1⟩
/-- the string of bytes l. -/
def str (l : List Nat) : ByteArray := strOfNums (l.map fun n : Nat => (n : Int))
theorem str_size (l : List Nat) : (str l).size = l.length := by unfold str; rw [strOfNums_size, List.length_map]
theorem str_codes (l : List Nat) (hl : bytes l) : Codes (str l) l := by
  refine ⟨(str_size l).symm, fun i h => ?_⟩
  have hi : i < l.length := by rw [← str_size l]; exact h
  have hb := bytes_get hl i
  have e : (str l)[i]'h = UInt8.ofNat (l.getD i 0) := by
    show (str l).data[i]'h = _
    simp [str, strOfNums, hi]
  rw [e, UInt8.toNat_ofNat']
  exact Nat.mod_eq_of_lt hb
/-- 'string(b)'. -/
theorem string_of_row (w : World) (a : Option Addr) (n cap : Nat) (l : List Nat) (h : Row w a n l) : (convert 23 9 (.slice a n cap)).run Try.prog w = .ok (.string (str l)) w := by
  have hm : ∀ i, ((l.map fun n : Nat => (n : Int)).getD i 0) = ((l.getD i 0 : Nat) : Int) := fun i => by
    by_cases hi : i < l.length <;> simp [hi]
  rcases Nat.eq_zero_or_pos n with h0 | h0
  · subst h0
    obtain rfl : l = [] := List.eq_nil_of_length_eq_zero h.1
    cases a with
    | none => exact run_convert_bytes_nil w 23 5 Try.underlying23 Try.underlying5 0 cap 9 Try.underlying9
    | some x => exact run_convert_bytes_back w 23 9 5 x cap [] Try.underlying23 Try.underlying5 Try.underlying9 (fun j hj => absurd hj (Nat.not_lt_zero j))
  · obtain ⟨b, off, rfl, hc⟩ := h.2 h0
    exact run_convert_bytes_arg w 23 5 Try.underlying23 Try.underlying5 b off n cap (l.map fun n : Nat => (n : Int)) (by rw [List.length_map]; exact h.1) (fun i hi => by rw [hm]; exact hc i hi) 9 Try.underlying9
theorem a_codes : Codes (ByteArray.mk #[97]) [97] := ⟨rfl, fun i h => by
  have h' : i < 1 := h
  obtain rfl : i = 0 := by omega
  rfl⟩
theorem a_small : bytes [97] := fun b hb => by
  simp at hb
  omega
theorem text_a (w : World) : Calls Try.prog 9 #[.string (ByteArray.mk #[97])] w fun e w' => e = .returned (.int .u64 12638187200555641996) ∧ w = w' :=
  (text_any _ [97] w a_codes a_small (by decide)).mono fun _ _ ⟨he, hw⟩ => ⟨by rw [he, gon_a]; rfl, hw⟩
theorem awake_any (w : World) : Calls Try.prog 6 #[] w fun e w' => e = .returned (.bool true) ∧ w = w' := by
  go_enter Try.func6, Try.ntmps6
  go_wp2_with fail
  refine (text_a _).mono ?_
  rintro e w1 ⟨rfl, rfl⟩
  go_wp2
  go_ret
  exact ⟨rfl, rfl⟩
end Go.Proofs.Ytjigobalghckdaa
