/-
  Of no function: calls (five numbers), their own numbers, what of a call counts, programs; calls and programs read from bytes and put to bytes; what was put is read. Conditions stand in each theorem.
-/
import Derived.Test.YtfhcgildokdppaaTpBw
namespace Go.Proofs.Ytfhcgildokdppaa
open tp
/-- a call. -/
structure Opn where
  k : Int
  key : Int
  val : Int
  cost : Int
  ttl : Int
theorem Opn.same (a b : Opn) : (a.k = b.k ∧ a.key = b.key ∧ a.val = b.val ∧ a.cost = b.cost ∧ a.ttl = b.ttl) ↔ a = b := by
  obtain ⟨a0, a1, a2, a3, a4⟩ := a
  obtain ⟨b0, b1, b2, b3, b4⟩ := b
  simp only [Opn.mk.injEq]
instance : DecidableEq Opn := fun a b => decidable_of_iff _ (Opn.same a b)
/-- each number is an int. -/
def I64 (x : Int) : Prop := -9223372036854775808 ≤ x ∧ x < 9223372036854775808
def Opn.ok (o : Opn) : Prop := I64 o.k ∧ I64 o.key ∧ I64 o.val ∧ I64 o.cost ∧ I64 o.ttl
/-- the places of a call's own numbers. -/
def pls (k : Int) : List Nat := if k = 1 ∨ k = 3 then [1] else if k = 2 then [1, 2, 3, 4] else if k = 7 then [3] else []
def nums (o : Opn) : List Int := if o.k = 1 ∨ o.k = 3 then [o.key] else if o.k = 2 then [o.key, o.val, o.cost, o.ttl] else if o.k = 7 then [o.cost] else []
def kd (k : Int) : Int := if 0 ≤ k ∧ k < 8 then k else 0
/-- what of it counts. -/
def bare (o : Opn) : Opn := if o.k = 1 ∨ o.k = 3 then ⟨o.k, o.key, 0, 0, 0⟩ else if o.k = 2 then o else if o.k = 4 ∨ o.k = 5 ∨ o.k = 6 then ⟨o.k, 0, 0, 0, 0⟩ else if o.k = 7 then ⟨7, 0, 0, o.cost, 0⟩ else ⟨0, 0, 0, 0, 0⟩
/-- a number written to a place. -/
def Opn.put (o : Opn) (f : Nat) (x : Int) : Opn := if f = 1 then { o with key := x } else if f = 2 then { o with val := x } else if f = 3 then { o with cost := x } else if f = 4 then { o with ttl := x } else o
/-- the call when i of its own numbers were written. -/
def fl (k : Int) (v : Nat → Int) : Nat → Opn
  | 0 => ⟨k, 0, 0, 0, 0⟩
  | i + 1 => (fl k v i).put ((pls k).getD i 0) (v i)
def fill (k : Int) (v : Nat → Int) : Opn := fl (kd k) v (pls (kd k)).length
/-- which kind. -/
theorem kinds (k : Int) : (k = 1 ∨ k = 3) ∨ k = 2 ∨ k = 7 ∨ (k = 4 ∨ k = 5 ∨ k = 6) ∨ (¬ (k = 1 ∨ k = 3) ∧ ¬ k = 2 ∧ ¬ k = 7 ∧ ¬ (k = 4 ∨ k = 5 ∨ k = 6)) := by omega
theorem pls_kd (k : Int) : pls (kd k) = pls k := by
  unfold kd
  split
  · rfl
  · unfold pls
    rw [if_neg (by omega), if_neg (by omega), if_neg (by omega), if_neg (by omega), if_neg (by omega), if_neg (by omega)]
theorem pls_len (k : Int) : (pls k).length ≤ 4 := by
  unfold pls
  by_cases h1 : k = 1 ∨ k = 3
  · rw [if_pos h1]; decide
  · by_cases h2 : k = 2
    · rw [if_neg h1, if_pos h2]; decide
    · by_cases h3 : k = 7
      · rw [if_neg h1, if_neg h2, if_pos h3]; decide
      · rw [if_neg h1, if_neg h2, if_neg h3]; decide
theorem nums_len (o : Opn) : (nums o).length = (pls o.k).length := by
  unfold nums pls
  by_cases h1 : o.k = 1 ∨ o.k = 3
  · rw [if_pos h1, if_pos h1]; rfl
  · by_cases h2 : o.k = 2
    · rw [if_neg h1, if_pos h2, if_neg h1, if_pos h2]; rfl
    · by_cases h3 : o.k = 7
      · rw [if_neg h1, if_neg h2, if_pos h3, if_neg h1, if_neg h2, if_pos h3]; rfl
      · rw [if_neg h1, if_neg h2, if_neg h3, if_neg h1, if_neg h2, if_neg h3]; rfl
theorem fill_bare (o : Opn) : fill o.k (fun i => (nums o).getD i 0) = bare o := by
  obtain ⟨k, a, b, c, d⟩ := o
  unfold fill
  rw [pls_kd]
  show fl (kd k) _ (pls k).length = _
  rcases kinds k with (rfl | rfl) | rfl | rfl | (rfl | rfl | rfl) | ⟨h1, h2, h3, h4⟩ <;> try rfl
  have e : pls k = [] := by unfold pls; rw [if_neg h1, if_neg h2, if_neg h3]
  rw [e]
  unfold bare
  simp only
  rw [if_neg h1, if_neg h2, if_neg h4, if_neg h3]
  show (⟨kd k, 0, 0, 0, 0⟩ : Opn) = _
  unfold kd
  split
  · rw [show k = 0 by omega]
  · rfl
def right (o : Opn) : Prop := bare o = o
instance (o : Opn) : Decidable (right o) := inferInstanceAs (Decidable (bare o = o))
theorem bare_right (o : Opn) : right (bare o) := by
  obtain ⟨k, a, b, c, d⟩ := o
  show bare (bare _) = _
  unfold bare
  rcases kinds k with (rfl | rfl) | rfl | rfl | (rfl | rfl | rfl) | ⟨h1, h2, h3, h4⟩ <;> simp_all
theorem right_kind {o : Opn} (h : right o) : 0 ≤ o.k ∧ o.k < 8 := by
  have h' : (bare o).k = o.k := congrArg Opn.k h
  unfold bare at h'
  rcases kinds o.k with h1 | h1 | h1 | h1 | ⟨h1, h2, h3, h4⟩
  · omega
  · omega
  · omega
  · omega
  · rw [if_neg h1, if_neg h2, if_neg h4, if_neg h3] at h'
    simp at h'
    omega
theorem bare_ok {o : Opn} (h : o.ok) : (bare o).ok := by
  obtain ⟨k, a, b, c, d⟩ := o
  obtain ⟨h1, h2, h3, h4, h5⟩ := h
  have z : I64 0 := by unfold I64; omega
  have z7 : I64 7 := by unfold I64; omega
  unfold bare
  repeat' split
  · exact ⟨h1, h2, z, z, z⟩
  · exact ⟨h1, h2, h3, h4, h5⟩
  · exact ⟨h1, z, z, z, z⟩
  · exact ⟨z7, z, z, h4, z⟩
  · exact ⟨z, z, z, z, z⟩
theorem nums_ok {o : Opn} (h : o.ok) : ∀ x ∈ nums o, I64 x := by
  obtain ⟨h1, h2, h3, h4, h5⟩ := h
  intro x hx
  unfold nums at hx
  repeat' split at hx
  all_goals (simp at hx)
  · subst hx; exact h2
  · rcases hx with rfl | rfl | rfl | rfl <;> assumption
  · subst hx; exact h4
def fine (l : List Opn) : Prop := l.length ≤ 24 ∧ ∀ o ∈ l, right o
instance (l : List Opn) : Decidable (fine l) := inferInstanceAs (Decidable (_ ∧ _))
/-- the place behind i numbers. -/
def pa (bs : List Nat) (a : Nat) : Nat → Nat
  | 0 => a
  | i + 1 => ia bs (pa bs a i)
theorem pa_le {bs : List Nat} {a : Nat} (h : a ≤ bs.length) (i : Nat) : pa bs a i ≤ bs.length := by
  induction i with
  | zero => exact h
  | succ i ih => exact ia_le ih
/-- the call at a place, and the place behind it. -/
def rv (bs : List Nat) (a i : Nat) : Int := iv bs (pa bs (nx bs a) i)
def ro (bs : List Nat) (a : Nat) : Opn := fill (bt bs a) (rv bs a)
def rp (bs : List Nat) (a : Nat) : Nat := pa bs (nx bs a) (pls (bt bs a)).length
theorem rp_le {bs : List Nat} {a : Nat} (h : a ≤ bs.length) : rp bs a ≤ bs.length := pa_le (nx_le h) _
/-- the place behind n calls, and n calls. -/
def qa (bs : List Nat) (a : Nat) : Nat → Nat
  | 0 => a
  | n + 1 => rp bs (qa bs a n)
def ql (bs : List Nat) (a : Nat) : Nat → List Opn
  | 0 => []
  | n + 1 => ql bs a n ++ [ro bs (qa bs a n)]
theorem qa_le {bs : List Nat} {a : Nat} (h : a ≤ bs.length) (n : Nat) : qa bs a n ≤ bs.length := by
  induction n with
  | zero => exact h
  | succ n ih => exact rp_le ih
theorem ql_len (bs : List Nat) (a n : Nat) : (ql bs a n).length = n := by
  induction n with
  | zero => rfl
  | succ n ih => simp [ql, ih]
/-- the program at a place, and the place behind it. -/
def pn (bs : List Nat) (a : Nat) : Nat := bt bs a % 25
def pl (bs : List Nat) (a : Nat) : List Opn := ql bs (nx bs a) (pn bs a)
def pz (bs : List Nat) (a : Nat) : Nat := qa bs (nx bs a) (pn bs a)
theorem pn_lt (bs : List Nat) (a : Nat) : pn bs a < 25 := Nat.mod_lt _ (by decide)
theorem pz_le {bs : List Nat} {a : Nat} (h : a ≤ bs.length) : pz bs a ≤ bs.length := qa_le (nx_le h) _
theorem kd_lt (k : Int) : 0 ≤ kd k ∧ kd k < 8 := by unfold kd; split <;> omega
/-- what is filled is right. -/
theorem fill_right (k : Int) (v : Nat → Int) : right (fill k v) := by
  have h := kd_lt k
  unfold fill
  generalize kd k = m at *
  rcases (show m = 0 ∨ m = 1 ∨ m = 2 ∨ m = 3 ∨ m = 4 ∨ m = 5 ∨ m = 6 ∨ m = 7 by omega) with rfl | rfl | rfl | rfl | rfl | rfl | rfl | rfl <;> rfl
theorem ql_right (bs : List Nat) (a n : Nat) : ∀ o ∈ ql bs a n, right o := by
  induction n with
  | zero => intro o h; simp [ql] at h
  | succ n ih =>
    intro o h
    rcases List.mem_append.1 h with h | h
    · exact ih o h
    · obtain rfl := List.mem_singleton.1 h
      exact fill_right _ _
theorem pl_fine (bs : List Nat) (a : Nat) : fine (pl bs a) := ⟨by have := pn_lt bs a; unfold pl; rw [ql_len]; omega, ql_right _ _ _⟩
theorem wrap_ok (x : Int) : I64 (IntKind.i64.wrap x) := by unfold I64; rw [IntKind.wrap_i64]; omega
theorem iv_ok {bs : List Nat} (h : Bs bs) (a : Nat) : I64 (iv bs a) := by
  have h1 := bt_lt h a
  have h2 := bt_lt h (nx bs a)
  unfold iv
  split
  · unfold I64; omega
  · split
    · unfold I64; omega
    · exact wrap_ok _
theorem fill_ok {k : Int} {v : Nat → Int} (hv : ∀ i, I64 (v i)) : (fill k v).ok := by
  have z : ∀ m : Int, 0 ≤ m → m < 8 → I64 m := fun m h1 h2 => by unfold I64; omega
  have z0 : I64 0 := z 0 (by decide) (by decide)
  have h := kd_lt k
  unfold fill
  generalize kd k = m at *
  rcases (show m = 0 ∨ m = 1 ∨ m = 2 ∨ m = 3 ∨ m = 4 ∨ m = 5 ∨ m = 6 ∨ m = 7 by omega) with rfl | rfl | rfl | rfl | rfl | rfl | rfl | rfl
  · exact ⟨z0, z0, z0, z0, z0⟩
  · exact ⟨z 1 (by decide) (by decide), hv 0, z0, z0, z0⟩
  · exact ⟨z 2 (by decide) (by decide), hv 0, hv 1, hv 2, hv 3⟩
  · exact ⟨z 3 (by decide) (by decide), hv 0, z0, z0, z0⟩
  · exact ⟨z 4 (by decide) (by decide), z0, z0, z0, z0⟩
  · exact ⟨z 5 (by decide) (by decide), z0, z0, z0, z0⟩
  · exact ⟨z 6 (by decide) (by decide), z0, z0, z0, z0⟩
  · exact ⟨z 7 (by decide) (by decide), z0, z0, hv 0, z0⟩
theorem ql_ok {bs : List Nat} (h : Bs bs) (a n : Nat) : ∀ o ∈ ql bs a n, o.ok := by
  induction n with
  | zero => intro o h; simp [ql] at h
  | succ n ih =>
    intro o ho
    rcases List.mem_append.1 ho with ho | ho
    · exact ih o ho
    · obtain rfl := List.mem_singleton.1 ho
      exact fill_ok fun i => iv_ok h _
/-- the numbers of which a program is put, and its bytes. -/
def one (o : Opn) : List Int := o.k :: nums o
def pus (l : List Opn) : List Int := (l.length : Int) :: l.flatMap one
def eo (o : Opn) : List Nat := ens (one o)
def eos (l : List Opn) : List Nat := l.flatMap eo
theorem ens_app (x y : List Int) : ens (x ++ y) = ens x ++ ens y := by unfold ens; rw [List.flatMap_append]
theorem ens_cons (n : Int) (y : List Int) : ens (n :: y) = en n ++ ens y := rfl
theorem ens_flat (l : List Opn) : ens (l.flatMap one) = eos l := by
  induction l with
  | nil => rfl
  | cons o r ih => rw [List.flatMap_cons, ens_app, ih]; rfl
theorem en_small {n : Int} (h : 0 ≤ n ∧ n < 200) : en n = [n.toNat] := by unfold en; rw [if_pos h]
theorem ens_pus {l : List Opn} (h : l.length ≤ 24) : ens (pus l) = l.length :: eos l := by
  unfold pus
  rw [ens_cons, ens_flat, en_small (by omega)]
  rfl
/-- numbers that were put, read in order. -/
theorem pa_put (pre post : List Nat) (xs : List Int) (h : ∀ x ∈ xs, I64 x) (i : Nat) (hi : i ≤ xs.length) : pa (pre ++ ens xs ++ post) pre.length i = pre.length + (ens (xs.take i)).length := by
  induction i with
  | zero => simp [pa, ens]
  | succ i ih =>
    have e : ens xs = ens (xs.take i) ++ en xs[i] ++ ens (xs.drop (i + 1)) := by
      rw [ens_take xs i hi, ← ens_app, List.take_append_drop]
    show ia _ (pa _ _ i) = _
    rw [ih (by omega)]
    have hx := h _ (List.getElem_mem hi)
    have := (iv_put (pre ++ ens (xs.take i)) (ens (xs.drop (i + 1)) ++ post) xs[i] hx.1 hx.2).2
    rw [List.length_append] at this
    rw [e, ← ens_take xs i hi, show pre ++ (ens (xs.take i) ++ en xs[i] ++ ens (xs.drop (i + 1))) ++ post = pre ++ ens (xs.take i) ++ en xs[i] ++ (ens (xs.drop (i + 1)) ++ post) by simp, this, List.length_append]
    omega
theorem iv_at (pre post : List Nat) (xs : List Int) (h : ∀ x ∈ xs, I64 x) (i : Nat) (hi : i < xs.length) : iv (pre ++ ens xs ++ post) (pa (pre ++ ens xs ++ post) pre.length i) = xs[i] := by
  rw [pa_put pre post xs h i (by omega)]
  have e : ens xs = ens (xs.take i) ++ en xs[i] ++ ens (xs.drop (i + 1)) := by
    rw [ens_take xs i hi, ← ens_app, List.take_append_drop]
  have hx := h _ (List.getElem_mem hi)
  have := (iv_put (pre ++ ens (xs.take i)) (ens (xs.drop (i + 1)) ++ post) xs[i] hx.1 hx.2).1
  rw [List.length_append] at this
  rw [e, show pre ++ (ens (xs.take i) ++ en xs[i] ++ ens (xs.drop (i + 1))) ++ post = pre ++ ens (xs.take i) ++ en xs[i] ++ (ens (xs.drop (i + 1)) ++ post) by simp, this]
theorem fl_same (k : Int) (v v' : Nat → Int) (n : Nat) (h : ∀ i, i < n → v i = v' i) : fl k v n = fl k v' n := by
  induction n with
  | zero => rfl
  | succ n ih => show (fl k v n).put _ (v n) = (fl k v' n).put _ (v' n); rw [ih fun i hi => h i (by omega), h n (by omega)]
/-- a call that was put is read. -/
theorem ro_put (pre post : List Nat) (o : Opn) (hr : right o) (ho : o.ok) : ro (pre ++ eo o ++ post) pre.length = o ∧ rp (pre ++ eo o ++ post) pre.length = pre.length + (eo o).length := by
  have hk := right_kind hr
  have he : eo o = o.k.toNat :: ens (nums o) := by unfold eo one; rw [ens_cons, en_small (by omega)]; rfl
  have hl : pre.length < (pre ++ eo o ++ post).length := by rw [he]; simp
  have hb : bt (pre ++ eo o ++ post) pre.length = o.k.toNat := by
    have := bt_mid pre (eo o) post 0 (by rw [he]; simp)
    simpa [he] using this
  have hn : nx (pre ++ eo o ++ post) pre.length = pre.length + 1 := nx_in hl
  have e2 : pre ++ eo o ++ post = (pre ++ [o.k.toNat]) ++ ens (nums o) ++ post := by rw [he]; simp
  have l2 : (pre ++ [o.k.toNat]).length = pre.length + 1 := by simp
  have hkk : ((o.k.toNat : Nat) : Int) = o.k := by omega
  constructor
  · unfold ro
    rw [hb, hkk]
    refine Eq.trans ?_ hr
    rw [← fill_bare o]
    unfold fill
    rw [pls_kd]
    refine fl_same _ _ _ _ fun i hi => ?_
    rw [← nums_len o] at hi
    unfold rv
    rw [hn, e2, ← l2, iv_at _ _ _ (nums_ok ho) i hi]
    simp [hi]
  · unfold rp
    rw [hb, hkk, hn, e2, ← l2, ← nums_len o, pa_put _ _ _ (nums_ok ho) _ (Nat.le_refl _), List.take_length, he]
    simp
    omega
theorem eos_app (a b : List Opn) : eos (a ++ b) = eos a ++ eos b := by unfold eos; rw [List.flatMap_append]
/-- calls that were put are read, in order. -/
theorem ql_put (pre post : List Nat) (l : List Opn) (hr : ∀ o ∈ l, right o) (ho : ∀ o ∈ l, o.ok) (n : Nat) (hn : n ≤ l.length) : ql (pre ++ eos l ++ post) pre.length n = l.take n ∧ qa (pre ++ eos l ++ post) pre.length n = pre.length + (eos (l.take n)).length := by
  induction n with
  | zero => exact ⟨rfl, by simp [qa, eos]⟩
  | succ n ih =>
    obtain ⟨h1, h2⟩ := ih (by omega)
    have hm := List.getElem_mem hn
    have e : eos l = eos (l.take n) ++ eo l[n] ++ eos (l.drop (n + 1)) := by
      have e1 : l.drop n = l[n] :: l.drop (n + 1) := List.drop_eq_getElem_cons hn
      have e2 : eos l = eos (l.take n) ++ eos (l.drop n) := by rw [← eos_app, List.take_append_drop]
      rw [e2, e1, List.append_assoc]
      rfl
    have := ro_put (pre ++ eos (l.take n)) (eos (l.drop (n + 1)) ++ post) l[n] (hr _ hm) (ho _ hm)
    have e2 : pre ++ eos l ++ post = pre ++ eos (l.take n) ++ eo l[n] ++ (eos (l.drop (n + 1)) ++ post) := by rw [e]; simp
    rw [List.length_append, ← e2] at this
    have et : l.take (n + 1) = l.take n ++ [l[n]] := List.take_succ_eq_append_getElem hn
    constructor
    · show ql _ _ n ++ [ro _ (qa _ _ n)] = _
      rw [h1, h2, this.1, et]
    · show rp _ (qa _ _ n) = _
      rw [h2, this.2, et, eos_app]
      simp [eos]
      omega
/-- a program that was put is read, and no more. -/
theorem pl_put (l : List Opn) (h : fine l) (ho : ∀ o ∈ l, o.ok) : pl (ens (pus l)) 0 = l ∧ pz (ens (pus l)) 0 = (ens (pus l)).length := by
  obtain ⟨hl, hr⟩ := h
  rw [ens_pus hl]
  have hb : bt (l.length :: eos l) 0 = l.length := rfl
  have hn : nx (l.length :: eos l) 0 = 1 := nx_in (by simp)
  have hp : pn (l.length :: eos l) 0 = l.length := by unfold pn; rw [hb]; omega
  have := ql_put [l.length] [] l hr ho l.length (Nat.le_refl _)
  rw [List.take_length, show [l.length] ++ eos l ++ [] = l.length :: eos l by simp] at this
  unfold pl pz
  rw [hp, hn]
  exact ⟨this.1, by rw [show (1 : Nat) = [l.length].length from rfl, this.2]; simp; omega⟩
end Go.Proofs.Ytfhcgildokdppaa
