/-
  Plain arithmetic of words: the inverse of an odd word modulo 2^64, a digest gone on by a byte and by a list of bytes, and what undoes it. Nothing here speaks of a program. Conditions stand in each theorem.
-/
import Derived.Laws.BitsAllLaws
import Derived.Lib.BitFns
namespace Go.Proofs.YtmjcdondogpceaaDoor.fn
def M : Nat := 18446744073709551616
theorem M_pow : M = 2 ^ 64 := by decide
/-- one turn of Newton's. -/
def nx (a v : Nat) : Nat := v * ((M + 2 - a * v % M) % M) % M
theorem nx_lt (a v : Nat) : nx a v < M := Nat.mod_lt _ (by decide)
/-- a times v is 1 modulo d. -/
def Inv (a v d : Nat) : Prop := ∃ q : Int, (a : Int) * v = 1 + d * q
theorem inv_base (a : Nat) (h : a % 2 = 1) : Inv a a 8 := by
  obtain ⟨b, rfl⟩ : ∃ b, a = 2 * b + 1 := ⟨a / 2, by omega⟩
  obtain ⟨c, hc⟩ : ∃ c, b * (b + 1) = 2 * c := by
    rcases Nat.mod_two_eq_zero_or_one b with h | h
    · exact ⟨b / 2 * (b + 1), by rw [← Nat.mul_assoc]; congr 1; omega⟩
    · exact ⟨b * ((b + 1) / 2), by rw [Nat.mul_left_comm]; congr 1; omega⟩
  refine ⟨c, ?_⟩
  have e : (2 * b + 1) * (2 * b + 1) = 4 * (b * (b + 1)) + 1 := by
    simp only [Nat.mul_add, Nat.add_mul, Nat.mul_one, Nat.one_mul]
    have : 2 * b * (2 * b) = 4 * (b * b) := by rw [Nat.mul_mul_mul_comm]
    omega
  have e2 : (((2 * b + 1) * (2 * b + 1) : Nat) : Int) = 1 + 8 * c := by rw [e, hc]; omega
  exact e2
theorem nx_int (a v : Nat) : ∃ t : Int, (nx a v : Int) = v * (2 - a * v) + (M : Int) * t := by
  have h1 : ((a * v % M : Nat) : Int) = a * v - M * ((a * v / M : Nat) : Int) := by
    have := Nat.mod_add_div (a * v) M
    have e : ((a * v % M + M * (a * v / M) : Nat) : Int) = ((a * v : Nat) : Int) := by rw [this]
    simp only [Int.natCast_add, Int.natCast_mul] at e
    omega
  have hl : a * v % M < M := Nat.mod_lt _ (by decide)
  have h2 : ((M + 2 - a * v % M : Nat) : Int) = M + 2 - ((a * v % M : Nat) : Int) := by omega
  generalize ha : M + 2 - a * v % M = u at *
  have h3 : ((u % M : Nat) : Int) = u - M * ((u / M : Nat) : Int) := by
    have := Nat.mod_add_div u M
    have e : ((u % M + M * (u / M) : Nat) : Int) = ((u : Nat) : Int) := by rw [this]
    simp only [Int.natCast_add, Int.natCast_mul] at e
    omega
  have hn : nx a v = v * (u % M) % M := by unfold nx; rw [ha]
  have h4 : ((v * (u % M) % M : Nat) : Int) = v * ((u % M : Nat) : Int) - M * ((v * (u % M) / M : Nat) : Int) := by
    have := Nat.mod_add_div (v * (u % M)) M
    have e : ((v * (u % M) % M + M * (v * (u % M) / M) : Nat) : Int) = ((v * (u % M) : Nat) : Int) := by rw [this]
    simp only [Int.natCast_add, Int.natCast_mul] at e
    omega
  rw [hn, h4, h3, h2, h1]
  generalize ((v * (u % M) / M : Nat) : Int) = z1
  generalize ((u / M : Nat) : Int) = z2
  generalize ((a * v / M : Nat) : Int) = z3
  refine ⟨v * (1 + z3 - z2) - z1, ?_⟩
  simp only [Int.mul_sub, Int.mul_add, Int.mul_one]
  have c1 : (v : Int) * (M * z2) = M * (v * z2) := Int.mul_left_comm _ _ _
  have c2 : (v : Int) * (M * z3) = M * (v * z3) := Int.mul_left_comm _ _ _
  have c3 : (v : Int) * M = M * v := Int.mul_comm _ _
  omega
theorem inv_step (a v d c m n : Nat) (h : Inv a v d) (hd : d * d = c * m) (hM : M = c * n) : Inv a (nx a v) c := by
  obtain ⟨q, hq⟩ := h
  obtain ⟨t, ht⟩ := nx_int a v
  refine ⟨a * (n * t) - m * (q * q), ?_⟩
  rw [ht, hM, Int.mul_add, ← Int.mul_assoc, hq]
  have e1 : (1 + (d : Int) * q) * (2 - (1 + d * q)) = 1 - (d * d) * (q * q) := by
    have : (2 : Int) - (1 + d * q) = 1 - d * q := by omega
    rw [this, Int.mul_sub, Int.mul_one, Int.add_mul, Int.one_mul]
    have : (d : Int) * q * (d * q) = d * d * (q * q) := by
      rw [Int.mul_assoc, Int.mul_left_comm q d q, ← Int.mul_assoc]
    omega
  have e2 : ((d : Int) * d) = c * m := by exact_mod_cast hd
  rw [e1, e2, Int.natCast_mul, Int.mul_sub, Int.mul_assoc (c : Int) m, Int.mul_assoc (c : Int) n t, Int.mul_left_comm (a : Int) c]
  omega
def nxi (a : Nat) : Nat → Nat
  | 0 => a
  | j + 1 => nx a (nxi a j)
theorem nxi_lt (a j : Nat) (h : a < M) : nxi a j < M := by
  cases j with
  | zero => exact h
  | succ j => exact nx_lt _ _
theorem nxi_five (a : Nat) (h : a % 2 = 1) : Inv a (nxi a 5) M := by
  have s0 : Inv a (nxi a 0) 8 := inv_base a h
  have s1 : Inv a (nxi a 1) 64 := inv_step a _ 8 64 1 288230376151711744 s0 (by decide) (by decide)
  have s2 : Inv a (nxi a 2) 4096 := inv_step a _ 64 4096 1 4503599627370496 s1 (by decide) (by decide)
  have s3 : Inv a (nxi a 3) 16777216 := inv_step a _ 4096 16777216 1 1099511627776 s2 (by decide) (by decide)
  have s4 : Inv a (nxi a 4) 281474976710656 := inv_step a _ 16777216 281474976710656 1 65536 s3 (by decide) (by decide)
  exact inv_step a _ 281474976710656 M 4294967296 1 s4 (by decide) (by decide)
/-- the inverse of a; 0 of an even one. -/
def invN (a : Nat) : Nat := if a % 2 = 0 then 0 else nxi a 5
theorem invN_lt (a : Nat) (h : a < M) : invN a < M := by
  unfold invN; split
  · decide
  · exact nxi_lt _ _ h
theorem inv_mod {a v : Nat} (h : Inv a v M) : a * v % M = 1 := by
  obtain ⟨q, hq⟩ := h
  have e : ((a * v : Nat) : Int) = 1 + M * q := by rw [← hq]; simp
  have h1 : ((a * v % M : Nat) : Int) = 1 := by
    rw [Int.natCast_emod, e, Int.add_mul_emod_self_left]
    decide
  omega
theorem mul_inv (a : Nat) (h : a % 2 = 1) : a * invN a % M = 1 := by
  unfold invN
  rw [if_neg (by omega)]
  exact inv_mod (nxi_five a h)
theorem odd_of_mul {a v : Nat} (h : a * v % M = 1) : v % 2 = 1 := by
  have hm : a * v % M % 2 = 1 := by rw [h]
  rw [Nat.mod_mod_of_dvd _ (show 2 ∣ M from by decide)] at hm
  rcases Nat.mod_two_eq_zero_or_one v with h0 | h1
  · rw [Nat.mul_mod, h0, Nat.mul_zero] at hm
    exact absurd hm (by decide)
  · exact h1
theorem mul_cancel (x a v : Nat) (hx : x < M) (h : a * v % M = 1) : x * a % M * v % M = x := by
  rw [Nat.mod_mul_mod, Nat.mul_assoc, ← Nat.mul_mod_mod, h, Nat.mul_one, Nat.mod_eq_of_lt hx]

theorem xor_lt (x y : Nat) (hx : x < M) (hy : y < M) : x ^^^ y < M := by
  rw [M_pow] at *
  exact Nat.xor_lt_two_pow hx hy
theorem xor_back (x y : Nat) : (x ^^^ y) ^^^ y = x := by rw [Nat.xor_assoc, Nat.xor_self, Nat.xor_zero]
/-! bytes -/
def bytes (l : List Nat) : Prop := ∀ b ∈ l, b < 256
theorem bytes_get {l : List Nat} (h : bytes l) (k : Nat) : l.getD k 0 < 256 := by
  rw [List.getD_eq_getElem?_getD]
  by_cases hk : k < l.length
  · rw [List.getElem?_eq_getElem hk]; exact h _ (List.getElem_mem hk)
  · rw [List.getElem?_eq_none (by omega)]; decide
theorem bytes_take {l : List Nat} (h : bytes l) (k : Nat) : bytes (l.take k) := fun n hn => h n (List.mem_of_mem_take hn)
theorem bytes_drop {l : List Nat} (h : bytes l) (k : Nat) : bytes (l.drop k) := fun n hn => h n (List.mem_of_mem_drop hn)
theorem bytes_set {l : List Nat} (h : bytes l) (k v : Nat) (hv : v < 256) : bytes (l.set k v) := fun n hn => (List.mem_or_eq_of_mem_set hn).elim (h n) (fun e => e ▸ hv)
/-! the digest: known by its equations alone -/
theorem go1_ex : ∃ f : Nat → Nat → Nat, ∀ h b, f h b = (h ^^^ b) * 1099511628211 % M := ⟨fun _ _ => _, fun _ _ => rfl⟩
/-- h gone on by the byte b. -/
noncomputable def go1 : Nat → Nat → Nat := go1_ex.choose
theorem go1_eq (h b : Nat) : go1 h b = (h ^^^ b) * 1099511628211 % M := go1_ex.choose_spec h b
theorem go1_lt (h b : Nat) : go1 h b < M := by rw [go1_eq]; exact Nat.mod_lt _ (by decide)
theorem ba1_ex : ∃ f : Nat → Nat → Nat, ∀ h b, f h b = (h * invN 1099511628211 % M) ^^^ b := ⟨fun _ _ => _, fun _ _ => rfl⟩
/-- the number whose step by b is h. -/
noncomputable def ba1 : Nat → Nat → Nat := ba1_ex.choose
theorem ba1_eq (h b : Nat) : ba1 h b = (h * invN 1099511628211 % M) ^^^ b := ba1_ex.choose_spec h b
theorem ba1_lt (h b : Nat) (hb : b < 256) : ba1 h b < M := by
  rw [ba1_eq]
  exact xor_lt _ _ (Nat.mod_lt _ (by decide)) (Nat.lt_trans hb (by decide))
theorem ba_go (h b : Nat) (hh : h < M) (hb : b < 256) : ba1 (go1 h b) b = h := by
  rw [ba1_eq, go1_eq, mul_cancel _ _ _ (xor_lt h b hh (Nat.lt_trans hb (by decide))) (mul_inv 1099511628211 (by decide)), xor_back]
theorem go_ba (h b : Nat) (hh : h < M) : go1 (ba1 h b) b = h := by
  rw [go1_eq, ba1_eq, xor_back, mul_cancel _ _ _ hh (by rw [Nat.mul_comm]; exact mul_inv 1099511628211 (by decide))]
theorem go1_inj (h g b : Nat) (hh : h < M) (hg : g < M) (hb : b < 256) : go1 h b = go1 g b ↔ h = g :=
  ⟨fun e => by rw [← ba_go h b hh hb, e, ba_go g b hg hb], fun e => by rw [e]⟩
theorem go1_apart (h b c : Nat) (hh : h < M) (hb : b < 256) (hc : c < 256) : go1 h b = go1 h c ↔ b = c := by
  refine ⟨fun e => ?_, fun e => by rw [e]⟩
  rw [go1_eq, go1_eq] at e
  have hP := mul_inv 1099511628211 (by decide)
  have e2 : h ^^^ b = h ^^^ c := by
    rw [← mul_cancel (h ^^^ b) _ _ (xor_lt h b hh (Nat.lt_trans hb (by decide))) hP, e, mul_cancel (h ^^^ c) _ _ (xor_lt h c hh (Nat.lt_trans hc (by decide))) hP]
  have e3 : (b ^^^ h) ^^^ h = (c ^^^ h) ^^^ h := by rw [Nat.xor_comm b h, e2, Nat.xor_comm h c]
  rwa [xor_back, xor_back] at e3
/-- the reference's way: the lowest eight bits alone. -/
theorem xor_low (h b : Nat) (hb : b < 256) : h - h % 256 + (h % 256 ^^^ b) = h ^^^ b := by
  have h1 : (h ^^^ b) % 2 ^ 8 = h % 2 ^ 8 ^^^ b % 2 ^ 8 := Nat.xor_mod_two_pow
  have h2 : (h ^^^ b) / 2 ^ 8 = h / 2 ^ 8 ^^^ b / 2 ^ 8 := Nat.xor_div_two_pow
  rw [show (2 : Nat) ^ 8 = 256 from rfl] at h1 h2
  rw [Nat.mod_eq_of_lt hb] at h1
  rw [Nat.div_eq_of_lt hb, Nat.xor_zero] at h2
  rw [← h1]
  have h3 := Nat.mod_add_div (h ^^^ b) 256
  have h4 := Nat.mod_add_div h 256
  rw [h2] at h3
  omega
theorem gon_ex : ∃ f : Nat → List Nat → Nat, (∀ h, f h [] = h) ∧ ∀ h b l, f h (b :: l) = f (go1 h b) l := ⟨fun h l => l.foldl go1 h, fun _ => rfl, fun _ _ _ => rfl⟩
/-- h gone on by bytes. -/
noncomputable def gon : Nat → List Nat → Nat := gon_ex.choose
theorem gon_nil (h : Nat) : gon h [] = h := gon_ex.choose_spec.1 h
theorem gon_cons (h b : Nat) (l : List Nat) : gon h (b :: l) = gon (go1 h b) l := gon_ex.choose_spec.2 h b l
theorem gon_lt (h : Nat) (l : List Nat) (hh : h < M) : gon h l < M := by
  induction l generalizing h with
  | nil => rw [gon_nil]; exact hh
  | cons b l ih => rw [gon_cons]; exact ih _ (go1_lt _ _)
theorem gon_app (h : Nat) (l c : List Nat) : gon h (l ++ c) = gon (gon h l) c := by
  induction l generalizing h with
  | nil => rw [gon_nil, List.nil_append]
  | cons b l ih => rw [List.cons_append, gon_cons, gon_cons, ih]
theorem gon_parts (h : Nat) (l : List Nat) (k : Nat) : gon (gon h (l.take k)) (l.drop k) = gon h l := by
  rw [← gon_app, List.take_append_drop]
theorem gon_step (h : Nat) (l : List Nat) (k : Nat) (hk : k < l.length) : gon h (l.drop k) = gon (go1 h (l.getD k 0)) (l.drop (k + 1)) := by
  rw [List.drop_eq_getElem_cons hk, gon_cons]
  simp [hk]
theorem gon_end (h : Nat) (l : List Nat) (k : Nat) (hk : l.length ≤ k) : gon h (l.drop k) = h := by
  rw [List.drop_eq_nil_of_le hk, gon_nil]
theorem gon_one (h b : Nat) : gon h [b] = go1 h b := by rw [gon_cons, gon_nil]
theorem gon_inj (h g : Nat) (l : List Nat) (hl : bytes l) (hh : h < M) (hg : g < M) : gon h l = gon g l ↔ h = g := by
  induction l generalizing h g with
  | nil => rw [gon_nil, gon_nil]
  | cons b l ih =>
    rw [gon_cons, gon_cons, ih _ _ (fun c hc => hl c (by simp [hc])) (go1_lt _ _) (go1_lt _ _)]
    exact go1_inj h g b hh hg (hl b (by simp))
/-- one byte alone is another one. -/
theorem gon_set (h : Nat) (l : List Nat) (k x : Nat) (hk : k < l.length) (hl : bytes l) (hx : x < 256) (hh : h < M) : gon h l = gon h (l.set k x) ↔ l.getD k 0 = x := by
  have e1 : l = l.take k ++ l.getD k 0 :: l.drop (k + 1) := by
    conv => lhs; rw [← List.take_append_drop k l, List.drop_eq_getElem_cons hk]
    simp [hk]
  have e2 : l.set k x = l.take k ++ x :: l.drop (k + 1) := by rw [List.set_eq_take_append_cons_drop, if_pos hk]
  have hb := bytes_get hl k
  rw [e2]
  conv => lhs; lhs; rw [e1]
  rw [gon_app, gon_app, gon_cons, gon_cons, gon_inj _ _ _ (bytes_drop hl _) (go1_lt _ _) (go1_lt _ _), go1_apart _ _ _ (gon_lt _ _ hh) hb hx]
theorem gon_a : gon 14695981039346656037 [97] = 12638187200555641996 := by
  rw [gon_one, go1_eq]
  decide +kernel
end Go.Proofs.YtmjcdondogpceaaDoor.fn
