/-
  A ring of texts that lies apart from the blocks of K ('HasS'), and New, Send, Take, At, Len and Clone by their contracts on it; a slice of texts that is read ('RowS').
-/
import Derived.Test.YtgkiekidmadabaaHelps
import Derived.Test.YtgkiekidmadabaaStAll
namespace Go.Proofs.Ytgkiekidmadabaa
open Go.RowKit Go.Shelf
/-- a ring of texts in block r has xs; none of its blocks is one of K. -/
def HasS (K : Nat → Prop) (w : World) (r : Nat) (xs : List ByteArray) (room : Nat) : Prop := ∃ s n f a, RingS w r s n f a xs room ∧ ∀ k, foot r s n k → ¬ K k
namespace HasS
variable {K K' : Nat → Prop} {w w' : World} {r : Nat} {xs : List ByteArray} {room : Nat}
theorem below (h : HasS K w r xs room) (hb : Below w.heap.size w w') : HasS K w' r xs room := by
  obtain ⟨s, n, f, a, hr, hk⟩ := h
  exact ⟨s, n, f, a, hr.below hb, hk⟩
theorem drewN (h : HasS K w r xs room) (m : Nat) : HasS K (w.drewN m) r xs room := by
  obtain ⟨s, n, f, a, hr, hk⟩ := h
  exact ⟨s, n, f, a, hr.drewN m, hk⟩
theorem keep (h : HasS K w r xs room) (hk : Keep (fun k => ¬ K k) w w') : HasS K w' r xs room := by
  obtain ⟨s, n, f, a, hr, hf⟩ := h
  exact ⟨s, n, f, a, hr.keep hk hf, hf⟩
theorem more (h : HasS K w r xs room) (hk : ∀ k, K' k → K k ∨ w.heap.size ≤ k) : HasS K' w r xs room := by
  obtain ⟨s, n, f, a, hr, hf⟩ := h
  exact ⟨s, n, f, a, hr, fun k h h' => by rcases hk k h' with h'' | h''; exact hf k h h''; have := hr.lt h; omega⟩
theorem send (h : HasS K w r xs room) (hK : ∀ k, K k → k < w.heap.size) (hx : xs.length < room) (x : ByteArray) : Calls Try.prog 22 #[.pointer (some ⟨r, 0, none⟩), .string x] w fun e B => e = .returned (.bool true) ∧ HasS K B r (xs ++ [x]) room ∧ Keep K w B := by
  obtain ⟨s, n, f, a, hr, hf⟩ := h
  exact (send_room_s hr hx x).mono fun e B ⟨he, s', n', f', a', hR, hn, hk⟩ => ⟨he, ⟨s', n', f', a', hR, fun k h h' => by rcases hn k h with h'' | h''; exact hf k h'' h'; have := hK k h'; omega⟩, hk.mono fun k _ h h' => hf k h' h⟩
theorem full (h : HasS K w r xs room) (hx : xs.length = room) (x : ByteArray) : Calls Try.prog 22 #[.pointer (some ⟨r, 0, none⟩), .string x] w fun e B => e = .returned (.bool false) ∧ ∃ m, B = w.drewN m := by
  obtain ⟨s, n, f, a, hr, hf⟩ := h
  exact send_full_s hr hx x
theorem take {x : ByteArray} {ys : List ByteArray} (h : HasS K w r (x :: ys) room) : Calls Try.prog 26 #[.pointer (some ⟨r, 0, none⟩)] w fun e B => e = .returned (.tuple #[.string x, .bool true]) ∧ HasS K B r ys room ∧ Keep K w B := by
  obtain ⟨s, n, f, a, hr, hf⟩ := h
  exact (take_some_s hr).mono fun e B ⟨he, hR, hk⟩ => ⟨he, ⟨s, n, _, a, hR, hf⟩, hk.mono fun k _ h h' => hf k h' h⟩
theorem front {x : ByteArray} {ys : List ByteArray} (h : HasS K w r (x :: ys) room) : Calls Try.prog 25 #[.pointer (some ⟨r, 0, none⟩), .int .i64 0] w fun e B => e = .returned (.tuple #[.string x, .bool true]) ∧ ∃ m, B = w.drewN m := by
  obtain ⟨s, n, f, a, hr, hf⟩ := h
  exact at_in_s hr 0 (by simp)
theorem len (h : HasS K w r xs room) : Calls Try.prog 24 #[.pointer (some ⟨r, 0, none⟩)] w fun e w' => e = .returned (.int .i64 (xs.length : Int)) ∧ w' = w := by
  obtain ⟨s, n, f, a, hr, hf⟩ := h
  exact len_some_s hr
theorem clone (h : HasS K w r xs room) : Calls Try.prog 23 #[.pointer (some ⟨r, 0, none⟩)] w fun e B => ∃ c g, e = .returned (.pointer (some ⟨c, 0, none⟩)) ∧ RingS B c g xs.length 0 (some ⟨g, 0, none⟩) xs room ∧ HasS (fun k => K k ∨ foot c g xs.length k) B r xs room ∧ w.heap.size ≤ c ∧ w.heap.size ≤ g ∧ Below w.heap.size w B := by
  have h' := h
  obtain ⟨s, n, f, a, hr, hf⟩ := h
  exact (clone_some_s hr).mono fun e B ⟨c, g, he, hR, hc, hg, hb⟩ => ⟨c, g, he, hR, HasS.below (h'.more fun k hk => by
    rcases hk with hk | rfl | ⟨_, rfl⟩
    · exact .inl hk
    · exact .inr hc
    · exact .inr hg) hb, hc, hg, hb⟩
end HasS
theorem new_has_s (k : Int) (w : World) (K : Nat → Prop) (hK : ∀ k, K k → k < w.heap.size) : Calls Try.prog 21 #[.int .i64 k] w fun e B => e = .returned (.pointer (some ⟨w.heap.size, 0, none⟩)) ∧ HasS K B w.heap.size [] (roomOf k) ∧ Below w.heap.size w B :=
  (new_any_s k w).mono fun e B ⟨he, hR, hb⟩ => ⟨he, ⟨0, 0, 0, none, hR, fun j hj h => by rcases hj with rfl | ⟨h0, _⟩; have := hK _ h; omega; omega⟩, hb⟩
/-- the slice at a reads as the texts of l. -/
def RowS (w : World) (a : Option Addr) (l : List ByteArray) : Prop := 0 < l.length → ∃ b o, a = some ⟨b, o, none⟩ ∧ ∀ i (h : i < l.length), w.cell? ⟨b, o + i, none⟩ = some (.string l[i])
theorem RowS.below {w w' : World} {a : Option Addr} {l : List ByteArray} (h : RowS w a l) (hb : Below w.heap.size w w') : RowS w' a l := fun hl => by
  obtain ⟨b, o, rfl, hi⟩ := h hl
  exact ⟨b, o, rfl, fun i h => (hb.cell (p := ⟨b, o + i, none⟩) (World.block_lt_of_cell? w ⟨b, o + i, none⟩ (hi i h))).trans (hi i h)⟩
/-- the frame of RingOrder: the argument's box, the result's, and all that lay. -/
structure Fr (w : World) (N : Nat) (a : Option Addr) (n cap : Nat) (v : Value) (W : World) : Prop where
  box : W.heap[N]? = some (.cells #[.slice a n cap] 47 (0, 0))
  out : W.heap[N + 1]? = some (.cells #[v] 4 (0, 0))
  old : Below N w W
namespace Fr
variable {w W W' : World} {N : Nat} {a : Option Addr} {n cap : Nat} {v : Value}
theorem keep {K : Nat → Prop} (h : Fr w N a n cap v W) (hk : Keep K W W') (hK : ∀ k, k < N + 2 → K k) : Fr w N a n cap v W' :=
  ⟨hk.heap h.box (hK _ (by omega)), hk.heap h.out (hK _ (by omega)), h.old.trans (hk.below (fun k hk => hK k (by omega)) (by have := heap_lt h.box; omega))⟩
theorem below (h : Fr w N a n cap v W) (hb : Below W.heap.size W W') : Fr w N a n cap v W' := h.keep (K := (· < W.heap.size)) (.of_below hb fun _ h => h) (fun k hk => by have := heap_lt h.out; omega)
theorem c0 (h : Fr w N a n cap v W) : W.cell? ⟨N, 0, none⟩ = some (.slice a n cap) := by rw [cell_of h.box]; rfl
theorem c1 (h : Fr w N a n cap v W) : W.cell? ⟨N + 1, 0, none⟩ = some v := by rw [cell_of h.out]; rfl
theorem f1 (h : Fr w N a n cap v W) : W.frozen? ⟨N + 1, 0, none⟩ = false := frozen_of h.out 0
theorem size (h : Fr w N a n cap v W) : N + 1 < W.heap.size := heap_lt h.out
theorem row {l : List ByteArray} (h : Fr w N a n cap v W) (hN : w.heap.size = N) (hr : RowS w a l) : RowS W a l := hr.below (hN ▸ h.old)
theorem set (h : Fr w N a n cap v W) (u : Value) : Fr w N a n cap u (W.setCell ⟨N + 1, 0, none⟩ u) :=
  ⟨heap_set_other h.box (by omega) _ _, heap_set h.out 0 u, h.old.trans ((Keep.setCell (K := (· < N)) W ⟨N + 1, 0, none⟩ u (by simp)).below (fun _ h => h) (by have := heap_lt h.box; omega))⟩
end Fr
end Go.Proofs.Ytgkiekidmadabaa
