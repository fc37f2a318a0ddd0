/-
  Of no function: trees of keys and things, as lists and as they lie in memory ('Tr', 'Lies'); how deep an even one is at most; rows that rise, what is put there and dropped.
-/
import Derived.Below
import Derived.Deep.Draws
import Derived.Lib.Hide
namespace Go.Proofs.YtnhpcjiieagjnaaDoor.rk
open Go.RowKit
/-- what is known of a key. -/
structure Kn where
  n : Nat
  c : Bool
abbrev kn (v : Kn) : Value := .agg #[.int .i64 (v.n : Int), .bool v.c]
def kn0 : Kn := ⟨0, false⟩
/-- a tree, each part with the block in which it lies. -/
inductive Tr where
  | nil : Tr
  | node (b : Nat) (k : Int) (v : Kn) (l r : Tr) : Tr
namespace Tr
def addr : Tr → Option Addr
  | nil => none
  | node b _ _ _ _ => some ⟨b, 0, none⟩
/-- keys and things, rising where the tree is in order. -/
def list : Tr → List (Int × Kn)
  | nil => []
  | node _ k v l r => l.list ++ (k, v) :: r.list
def deep : Tr → Nat
  | nil => 0
  | node _ _ _ l r => max l.deep r.deep + 1
/-- the sides differ by one at most. -/
def Bal : Tr → Prop
  | nil => True
  | node _ _ _ l r => l.deep ≤ r.deep + 1 ∧ r.deep ≤ l.deep + 1 ∧ l.Bal ∧ r.Bal
/-- the cells of a part. -/
def part (k : Int) (v : Kn) (l r : Tr) : Array Value := #[.int .u64 k, .int .i64 (v.n : Int), .bool v.c, .pointer l.addr, .pointer r.addr, .int .i64 ((l.list.length + 1 + r.list.length : Nat) : Int), .int .i64 ((max l.deep r.deep + 1 : Nat) : Int)]
/-- it lies in w. -/
def Lies (w : World) : Tr → Prop
  | nil => True
  | node b k v l r => w.heap[b]? = some (.cells (part k v l r) 88 (0, 0)) ∧ l.Lies w ∧ r.Lies w
theorem list_node (b : Nat) (k : Int) (v : Kn) (l r : Tr) : (node b k v l r).list = l.list ++ (k, v) :: r.list := rfl
theorem len_node (b : Nat) (k : Int) (v : Kn) (l r : Tr) : (node b k v l r).list.length = l.list.length + 1 + r.list.length := by simp [list]; omega
theorem deep_node (b : Nat) (k : Int) (v : Kn) (l r : Tr) : (node b k v l r).deep = max l.deep r.deep + 1 := rfl
theorem deep_le (t : Tr) : t.deep ≤ t.list.length := by
  induction t with
  | nil => exact Nat.le_refl _
  | node b k v l r hl hr => rw [len_node, deep_node]; omega
/-- all its blocks. -/
def has : Tr → Nat → Prop
  | nil, _ => False
  | node b _ _ l r, i => i = b ∨ l.has i ∨ r.has i
theorem Lies.lt {w : World} {t : Tr} (h : t.Lies w) {i : Nat} (hi : t.has i) : i < w.heap.size := by
  induction t with
  | nil => exact hi.elim
  | node b k v l r hl hr =>
    rcases hi with rfl | hi | hi
    · exact (Array.getElem?_eq_some_iff.1 h.1).1
    · exact hl h.2.1 hi
    · exact hr h.2.2 hi
theorem Lies.keep {w w' : World} {t : Tr} (h : t.Lies w) (hk : ∀ i, t.has i → w'.heap[i]? = w.heap[i]?) : t.Lies w' := by
  induction t with
  | nil => trivial
  | node b k v l r hl hr => exact ⟨(hk b (.inl rfl)).trans h.1, hl h.2.1 fun i hi => hk i (.inr (.inl hi)), hr h.2.2 fun i hi => hk i (.inr (.inr hi))⟩
theorem Lies.below {w w' : World} {t : Tr} (h : t.Lies w) (hb : Below w.heap.size w w') : t.Lies w' := h.keep fun i hi => hb.block i (h.lt hi)
theorem Lies.drewN {w : World} {t : Tr} (h : t.Lies w) (m : Nat) : t.Lies (w.drewN m) := h.keep fun _ _ => rfl
theorem Lies.alloc {w : World} {t : Tr} (h : t.Lies w) (o : Obj) : t.Lies (w.alloc o) := h.keep fun _ hi => Below.heap_alloc _ _ _ (h.lt hi)
section
variable {w : World} {b : Nat} {k : Int} {v : Kn} {l r : Tr}
theorem Lies.c (h : (node b k v l r).Lies w) (i : Nat) : w.cell? ⟨b, i, none⟩ = (part k v l r)[i]? := by simp [World.cell?, h.1]
theorem Lies.c0 (h : (node b k v l r).Lies w) : w.cell? ⟨b, 0, none⟩ = some (.int .u64 k) := h.c 0
theorem Lies.c1 (h : (node b k v l r).Lies w) : w.cell? ⟨b, 1, none⟩ = some (.int .i64 (v.n : Int)) := h.c 1
theorem Lies.c1b (h : (node b k v l r).Lies w) : w.cell? ⟨b, 2, none⟩ = some (.bool v.c) := h.c 2
theorem Lies.c2 (h : (node b k v l r).Lies w) : w.cell? ⟨b, 3, none⟩ = some (.pointer l.addr) := h.c 3
theorem Lies.c3 (h : (node b k v l r).Lies w) : w.cell? ⟨b, 4, none⟩ = some (.pointer r.addr) := h.c 4
theorem Lies.c4 (h : (node b k v l r).Lies w) : w.cell? ⟨b, 5, none⟩ = some (.int .i64 ((l.list.length + 1 + r.list.length : Nat) : Int)) := h.c 5
theorem Lies.c5 (h : (node b k v l r).Lies w) : w.cell? ⟨b, 6, none⟩ = some (.int .i64 ((max l.deep r.deep + 1 : Nat) : Int)) := h.c 6
end
/-- how many keys the part has to which a pointer leads: read out of memory. -/
def many (v : Value) (w : World) : Nat :=
  match v with
  | .pointer (some a) => (match w.cell? ⟨a.block, 5, none⟩ with | some (.int _ n) => n.toNat | _ => 0)
  | _ => 0
theorem Lies.many {w : World} {t : Tr} (h : t.Lies w) : Tr.many (.pointer t.addr) w = t.list.length := by
  cases t with
  | nil => rfl
  | node b k v l r => rw [len_node]; simp only [Tr.many, addr, h.c4]; omega
/-- an even tree: one more than its keys is at least 2 to the half of its depth. -/
theorem Bal.many {t : Tr} (h : t.Bal) : 2 ^ ((t.deep + 1) / 2) ≤ t.list.length + 1 := by
  suffices ∀ n (t : Tr), t.deep ≤ n → t.Bal → 2 ^ ((t.deep + 1) / 2) ≤ t.list.length + 1 from this _ t (Nat.le_refl _) h
  clear h t
  intro n
  induction n with
  | zero => intro t ht _; have : t.deep = 0 := by omega
            rw [this]; simp
  | succ n ih =>
    intro t ht hb
    cases t with
    | nil => simp [deep, list]
    | node b k v l r =>
      obtain ⟨h1, h2, hl, hr⟩ := hb
      rw [len_node, deep_node]
      rw [deep_node] at ht
      have il := ih l (by omega) hl
      have ir := ih r (by omega) hr
      have mono : ∀ a b : Nat, a ≤ b → 2 ^ a ≤ 2 ^ b := fun a b h => Nat.pow_le_pow_right (by omega) h
      have e : ∀ m, 2 ^ ((m + 1 + 1) / 2) = 2 * 2 ^ (m / 2) := fun m => by rw [show (m + 1 + 1) / 2 = m / 2 + 1 by omega, Nat.pow_succ]; omega
      rw [e]
      have m1 := mono (max l.deep r.deep / 2) ((l.deep + 1) / 2) (by omega)
      have m2 := mono (max l.deep r.deep / 2) ((r.deep + 1) / 2) (by omega)
      omega
end Tr
/-- keys rise. -/
def Up (xs : List (Int × Kn)) : Prop := xs.Pairwise fun a b => a.1 < b.1
/-- what is below k, and above it. -/
def lo (k : Int) (xs : List (Int × Kn)) : List (Int × Kn) := xs.filter fun e => decide (e.1 < k)
def hi (k : Int) (xs : List (Int × Kn)) : List (Int × Kn) := xs.filter fun e => decide (k < e.1)
/-- what is put, and dropped. -/
def ins (k : Int) (v : Kn) (xs : List (Int × Kn)) : List (Int × Kn) := lo k xs ++ (k, v) :: hi k xs
def del (k : Int) (xs : List (Int × Kn)) : List (Int × Kn) := lo k xs ++ hi k xs
/-- the thing of k. -/
def look (k : Int) (xs : List (Int × Kn)) : Option Kn := (xs.find? fun e => e.1 == k).map (·.2)
section
variable {k : Int} {xs ys : List (Int × Kn)}
theorem lo_append : lo k (xs ++ ys) = lo k xs ++ lo k ys := List.filter_append ..
theorem hi_append : hi k (xs ++ ys) = hi k xs ++ hi k ys := List.filter_append ..
theorem lo_all (h : ∀ e ∈ xs, e.1 < k) : lo k xs = xs := List.filter_eq_self.2 fun e he => by simpa using h e he
theorem hi_all (h : ∀ e ∈ xs, k < e.1) : hi k xs = xs := List.filter_eq_self.2 fun e he => by simpa using h e he
theorem lo_none (h : ∀ e ∈ xs, k ≤ e.1) : lo k xs = [] := List.filter_eq_nil_iff.2 fun e he => by simpa using h e he
theorem hi_none (h : ∀ e ∈ xs, e.1 ≤ k) : hi k xs = [] := List.filter_eq_nil_iff.2 fun e he => by simpa using h e he
theorem mem_lo {e : Int × Kn} : e ∈ lo k xs ↔ e ∈ xs ∧ e.1 < k := by simp [lo]
theorem mem_hi {e : Int × Kn} : e ∈ hi k xs ↔ e ∈ xs ∧ k < e.1 := by simp [hi]
theorem lo_cons {e : Int × Kn} : lo k (e :: xs) = if e.1 < k then e :: lo k xs else lo k xs := by simp [lo, List.filter_cons]
theorem hi_cons {e : Int × Kn} : hi k (e :: xs) = if k < e.1 then e :: hi k xs else hi k xs := by simp [hi, List.filter_cons]
theorem Up.parts {e : Int × Kn} (h : Up (xs ++ e :: ys)) : Up xs ∧ Up ys ∧ (∀ a ∈ xs, a.1 < e.1) ∧ (∀ a ∈ ys, e.1 < a.1) := by
  obtain ⟨h1, h2, h3⟩ := List.pairwise_append.1 h
  obtain ⟨h4, h5⟩ := List.pairwise_cons.1 h2
  exact ⟨h1, h5, fun a ha => h3 a ha e (by simp), h4⟩
theorem Up.cons {e : Int × Kn} (h : Up (e :: ys)) : Up ys ∧ (∀ a ∈ ys, e.1 < a.1) := ⟨(List.pairwise_cons.1 h).2, (List.pairwise_cons.1 h).1⟩
theorem Up.join {e : Int × Kn} (h1 : Up xs) (h2 : Up ys) (h3 : ∀ a ∈ xs, a.1 < e.1) (h4 : ∀ a ∈ ys, e.1 < a.1) : Up (xs ++ e :: ys) :=
  List.pairwise_append.2 ⟨h1, List.pairwise_cons.2 ⟨h4, h2⟩, fun a ha b hb => by
    rcases List.mem_cons.1 hb with rfl | hb
    · exact h3 a ha
    · have := h3 a ha; have := h4 b hb; omega⟩
theorem Up.lo (h : Up xs) : Up (lo k xs) := List.Pairwise.filter _ h
theorem Up.hi (h : Up xs) : Up (hi k xs) := List.Pairwise.filter _ h
theorem Up.ins (h : Up xs) (v : Kn) : Up (ins k v xs) := Up.join h.lo h.hi (fun _ ha => (mem_lo.1 ha).2) fun _ ha => (mem_hi.1 ha).2
theorem Up.del (h : Up xs) : Up (del k xs) := List.pairwise_append.2 ⟨h.lo, h.hi, fun a ha b hb => by have := (mem_lo.1 ha).2; have := (mem_hi.1 hb).2; omega⟩
/-- a row, parted by a key. -/
theorem sides_below {e : Int × Kn} (h : Up (xs ++ e :: ys)) (hk : k < e.1) : lo k (xs ++ e :: ys) = lo k xs ∧ hi k (xs ++ e :: ys) = hi k xs ++ e :: ys := by
  obtain ⟨_, _, _, h4⟩ := h.parts
  constructor
  · rw [lo_append, lo_cons, if_neg (by omega), lo_none (xs := ys) (fun a ha => by have := h4 a ha; omega), List.append_nil]
  · rw [hi_append, hi_cons, if_pos hk, hi_all (xs := ys) (fun a ha => by have := h4 a ha; omega)]
theorem sides_above {e : Int × Kn} (h : Up (xs ++ e :: ys)) (hk : e.1 < k) : lo k (xs ++ e :: ys) = xs ++ e :: lo k ys ∧ hi k (xs ++ e :: ys) = hi k ys := by
  obtain ⟨_, _, h3, _⟩ := h.parts
  constructor
  · rw [lo_append, lo_cons, if_pos hk, lo_all (xs := xs) (fun a ha => by have := h3 a ha; omega)]
  · rw [hi_append, hi_cons, if_neg (by omega), hi_none (xs := xs) (fun a ha => by have := h3 a ha; omega), List.nil_append]
theorem sides_at {e : Int × Kn} (h : Up (xs ++ e :: ys)) : lo e.1 (xs ++ e :: ys) = xs ∧ hi e.1 (xs ++ e :: ys) = ys := by
  obtain ⟨_, _, h3, h4⟩ := h.parts
  constructor
  · rw [lo_append, lo_cons, if_neg (by omega), lo_all h3, lo_none (xs := ys) (fun a ha => by have := h4 a ha; omega), List.append_nil]
  · rw [hi_append, hi_cons, if_neg (by omega), hi_all h4, hi_none (xs := xs) (fun a ha => by have := h3 a ha; omega), List.nil_append]
theorem ins_below {e : Int × Kn} (h : Up (xs ++ e :: ys)) (hk : k < e.1) (v : Kn) : ins k v (xs ++ e :: ys) = ins k v xs ++ e :: ys := by
  rw [ins, (sides_below h hk).1, (sides_below h hk).2, ins]; simp
theorem ins_above {e : Int × Kn} (h : Up (xs ++ e :: ys)) (hk : e.1 < k) (v : Kn) : ins k v (xs ++ e :: ys) = xs ++ e :: ins k v ys := by
  rw [ins, (sides_above h hk).1, (sides_above h hk).2, ins]; simp
theorem ins_at {e : Int × Kn} (h : Up (xs ++ e :: ys)) (v : Kn) : ins e.1 v (xs ++ e :: ys) = xs ++ (e.1, v) :: ys := by
  rw [ins, (sides_at h).1, (sides_at h).2]
theorem del_below {e : Int × Kn} (h : Up (xs ++ e :: ys)) (hk : k < e.1) : del k (xs ++ e :: ys) = del k xs ++ e :: ys := by
  rw [del, (sides_below h hk).1, (sides_below h hk).2, del]; simp
theorem del_above {e : Int × Kn} (h : Up (xs ++ e :: ys)) (hk : e.1 < k) : del k (xs ++ e :: ys) = xs ++ e :: del k ys := by
  rw [del, (sides_above h hk).1, (sides_above h hk).2, del]; simp
theorem del_at {e : Int × Kn} (h : Up (xs ++ e :: ys)) : del e.1 (xs ++ e :: ys) = xs ++ ys := by
  rw [del, (sides_at h).1, (sides_at h).2]
theorem ins_len (v : Kn) : (ins k v xs).length ≤ xs.length + 1 := by
  have : (lo k xs).length + (hi k xs).length ≤ xs.length := by
    induction xs with
    | nil => simp [lo, hi]
    | cons e l ih => rw [lo_cons, hi_cons]; split <;> split <;> simp <;> omega
  rw [ins, List.length_append, List.length_cons]; omega
theorem del_len : (del k xs).length ≤ xs.length := by
  have : (lo k xs).length + (hi k xs).length ≤ xs.length := by
    induction xs with
    | nil => simp [lo, hi]
    | cons e l ih => rw [lo_cons, hi_cons]; split <;> split <;> simp <;> omega
  rw [del, List.length_append]; omega
end
end Go.Proofs.YtnhpcjiieagjnaaDoor.rk
