/-
  Plain mathematics of costs: which numbers are costs, sums of two and of many, room, a cost in another's place. Nothing of any program.
-/
import Derived.Lib.Hide
namespace Go.Proofs.Ytgienoomodlfdaa
/-- n is a cost. -/
def okC (n : Int) : Bool := decide (0 ≤ n ∧ n ≤ 4611686018427387904)
theorem okC_iff (n : Int) : okC n = true ↔ 0 ≤ n ∧ n ≤ 4611686018427387904 := by unfold okC; simp
theorem okC_no (n : Int) : okC n = false ↔ ¬ (0 ≤ n ∧ n ≤ 4611686018427387904) := by unfold okC; simp
def addB (a b : Int) : Bool := decide (0 ≤ a ∧ 0 ≤ b ∧ a + b ≤ 4611686018427387904)
def addV (a b : Int) : Int := if 0 ≤ a ∧ 0 ≤ b ∧ a + b ≤ 4611686018427387904 then a + b else 0
def roomB (m u : Int) : Bool := decide (m ≤ 4611686018427387904 ∧ 0 ≤ u ∧ u ≤ m)
def roomV (m u : Int) : Int := if m ≤ 4611686018427387904 ∧ 0 ≤ u ∧ u ≤ m then m - u else 0
def moveB (u o n : Int) : Bool := decide (u ≤ 4611686018427387904 ∧ 0 ≤ o ∧ o ≤ u ∧ 0 ≤ n ∧ u - o + n ≤ 4611686018427387904)
def moveV (u o n : Int) : Int := if u ≤ 4611686018427387904 ∧ 0 ≤ o ∧ o ≤ u ∧ 0 ≤ n ∧ u - o + n ≤ 4611686018427387904 then u - o + n else 0
def cutV (n : Int) : Int := min (max n 0) 4611686018427387904
def tot : List Int → Int
  | [] => 0
  | a :: l => a + tot l
theorem tot_append (l r : List Int) : tot (l ++ r) = tot l + tot r := by
  induction l with
  | nil => simp [tot]
  | cons a l ih => simp [tot, ih]; omega
/-- all of l are costs, and so is their sum. -/
def Fine (l : List Int) : Prop := (∀ n ∈ l, 0 ≤ n) ∧ tot l ≤ 4611686018427387904
instance (l : List Int) : Decidable (Fine l) := inferInstanceAs (Decidable ((∀ n ∈ l, 0 ≤ n) ∧ tot l ≤ 4611686018427387904))
def sumB (l : List Int) : Bool := decide (Fine l)
def sumV (l : List Int) : Int := if Fine l then tot l else 0
theorem tot_pos (l : List Int) (h : ∀ n ∈ l, 0 ≤ n) : 0 ≤ tot l := by
  induction l with
  | nil => simp [tot]
  | cons a l ih =>
    have h1 := h a (by simp)
    have h2 := ih fun n hn => h n (by simp [hn])
    simp only [tot]; omega
theorem fine_append (l r : List Int) : Fine (l ++ r) ↔ Fine l ∧ Fine r ∧ tot l + tot r ≤ 4611686018427387904 := by
  unfold Fine
  rw [tot_append]
  constructor
  · rintro ⟨h, t⟩
    have hl := tot_pos l fun n hn => h n (by simp [hn])
    have hr := tot_pos r fun n hn => h n (by simp [hn])
    exact ⟨⟨fun n hn => h n (by simp [hn]), by omega⟩, ⟨fun n hn => h n (by simp [hn]), by omega⟩, t⟩
  · rintro ⟨⟨hl, _⟩, ⟨hr, _⟩, t⟩
    exact ⟨fun n hn => (List.mem_append.mp hn).elim (hl n) (hr n), t⟩
theorem fine_one (n : Int) : Fine [n] ↔ 0 ≤ n ∧ n ≤ 4611686018427387904 := by simp [Fine, tot]
theorem fine_nil : Fine [] := by simp [Fine, tot]
theorem take_snoc (l : List Int) (k : Nat) (h : k < l.length) : l.take (k + 1) = l.take k ++ [l.getD k 0] := by
  rw [List.take_succ_eq_append_getElem h]
  simp [h]
/-- one step of a sum: the next number is let in, or the whole list has no sum. -/
theorem fine_step (l : List Int) (k : Nat) (h : k < l.length) (hf : Fine (l.take k)) (h0 : 0 ≤ l.getD k 0) (h1 : tot (l.take k) + l.getD k 0 ≤ 4611686018427387904) : Fine (l.take (k + 1)) ∧ tot (l.take (k + 1)) = tot (l.take k) + l.getD k 0 := by
  rw [take_snoc l k h]
  have hp := tot_pos _ hf.1
  refine ⟨(fine_append _ _).mpr ⟨hf, (fine_one _).mpr ⟨h0, by omega⟩, by simpa [tot] using h1⟩, by rw [tot_append]; simp [tot]⟩
theorem fine_stop (l : List Int) (k : Nat) (h : k < l.length) (hn : ¬ (0 ≤ l.getD k 0 ∧ tot (l.take k) + l.getD k 0 ≤ 4611686018427387904)) : ¬ Fine l := by
  intro hf
  rw [← List.take_append_drop (k + 1) l, take_snoc l k h] at hf
  have h1 := ((fine_append _ _).mp hf).1
  obtain ⟨_, h2, h3⟩ := (fine_append _ _).mp h1
  have := (fine_one _).mp h2
  simp [tot] at h3
  exact hn ⟨this.1, h3⟩
theorem fine_pos {l : List Int} (h : Fine l) : 0 ≤ tot l := tot_pos l h.1
theorem sum_two (a b : Int) : sumB [a, b] = addB a b ∧ sumV [a, b] = addV a b := by
  unfold sumB sumV addB addV
  have e : Fine [a, b] ↔ 0 ≤ a ∧ 0 ≤ b ∧ a + b ≤ 4611686018427387904 := by
    unfold Fine; simp [tot]; omega
  refine ⟨by simp [e], ?_⟩
  by_cases h : Fine [a, b]
  · rw [if_pos h, if_pos (e.mp h)]; simp [tot]
  · rw [if_neg h, if_neg fun h' => h (e.mpr h')]
/-- the law of parts: the list's sum, and the sum of both parts' sums, turned round. -/
theorem parts (l : List Int) (k : Nat) :
    sumB l = (sumB (l.drop k) && sumB (l.take k) && addB (sumV (l.drop k)) (sumV (l.take k))) ∧ (sumB l = true → addV (sumV (l.drop k)) (sumV (l.take k)) = sumV l) := by
  have e := fine_append (l.take k) (l.drop k)
  have t := tot_append (l.take k) (l.drop k)
  rw [List.take_append_drop] at e t
  unfold sumB sumV addB addV
  by_cases h : Fine l
  · obtain ⟨h1, h2, h3⟩ := e.mp h
    have p1 := fine_pos h1
    have p2 := fine_pos h2
    have c : 0 ≤ tot (l.drop k) ∧ 0 ≤ tot (l.take k) ∧ tot (l.drop k) + tot (l.take k) ≤ 4611686018427387904 := ⟨p2, p1, by omega⟩
    simp [h, h1, h2, c]
    omega
  · refine ⟨?_, fun h' => absurd (of_decide_eq_true h') h⟩
    by_cases h1 : Fine (l.take k)
    · by_cases h2 : Fine (l.drop k)
      · have : ¬ tot (l.take k) + tot (l.drop k) ≤ 4611686018427387904 := fun h3 => h (e.mpr ⟨h1, h2, h3⟩)
        have c : ¬ (0 ≤ tot (l.drop k) ∧ 0 ≤ tot (l.take k) ∧ tot (l.drop k) + tot (l.take k) ≤ 4611686018427387904) := by omega
        simp only [h, h1, h2, if_true]
        rw [decide_eq_false c]; rfl
      · simp [h, h2]
    · simp [h, h1]
/-- moved back, it is as it was. -/
theorem move_back (u o n : Int) (h : moveB u o n = true) : moveB (moveV u o n) n o = true ∧ moveV (moveV u o n) n o = u := by
  unfold moveB at *
  have h' := of_decide_eq_true h
  unfold moveV
  rw [if_pos h']
  refine ⟨decide_eq_true (by omega), ?_⟩
  rw [if_pos (by omega)]
  omega
end Go.Proofs.Ytgienoomodlfdaa
