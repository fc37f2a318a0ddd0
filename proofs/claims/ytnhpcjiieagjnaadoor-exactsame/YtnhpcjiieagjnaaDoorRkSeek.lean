/-
  A tree as a pointer leads to it ('Stands'); (*Tree[int, int]).seek, Get, Rank, Len, Deep by their contracts, of a tree and of none.
-/
import Derived.Test.YtnhpcjiieagjnaaDoorRkPut
namespace Go.Proofs.YtnhpcjiieagjnaaDoor.rk
open Go.RowKit
open Tr (node)
/-- a tree lies in block g: t are its parts. -/
structure At (w : World) (g : Nat) (t : Tr) : Prop where
  head : w.heap[g]? = some (.cells #[ordV, .pointer t.addr] 90 (0, 0))
  lies : t.Lies w
  up : Up t.list
  bal : t.Bal
  fits : t.list.length < 1000000000000000000
namespace At
variable {w w' : World} {g : Nat} {t : Tr}
theorem below (h : At w g t) (hb : Below w.heap.size w w') : At w' g t := ⟨(hb.block g (heap_lt h.head)).trans h.head, h.lies.below hb, h.up, h.bal, h.fits⟩
theorem drewN (h : At w g t) (m : Nat) : At (w.drewN m) g t := ⟨h.head, h.lies.drewN m, h.up, h.bal, h.fits⟩
theorem c0 (h : At w g t) : w.cell? ⟨g, 0, none⟩ = some ordV := by rw [cell_of h.head]; rfl
theorem c1 (h : At w g t) : w.cell? ⟨g, 1, none⟩ = some (.pointer t.addr) := by rw [cell_of h.head]; rfl
end At
section
variable {k : Int} {xs ys : List (Int × Kn)}
theorem look_append : look k (xs ++ ys) = (look k xs).or (look k ys) := by
  unfold look
  rw [List.find?_append]
  cases List.find? (fun e => e.1 == k) xs <;> rfl
theorem look_none (h : ∀ e ∈ xs, e.1 ≠ k) : look k xs = none := by
  unfold look
  rw [List.find?_eq_none.2 (fun e he => by simpa using h e he)]
  rfl
theorem look_cons {e : Int × Kn} : look k (e :: xs) = if e.1 = k then some e.2 else look k xs := by
  unfold look
  rw [List.find?_cons]
  by_cases h : e.1 = k
  · simp [h]
  · rw [if_neg h, show (e.1 == k) = false by simpa using h]
theorem look_below {e : Int × Kn} (h : Up (xs ++ e :: ys)) (hk : k < e.1) : look k (xs ++ e :: ys) = look k xs := by
  obtain ⟨_, _, _, h4⟩ := h.parts
  rw [look_append, look_cons, if_neg (by omega), look_none (xs := ys) (fun a ha => by have := h4 a ha; omega), Option.or_none]
theorem look_above {e : Int × Kn} (h : Up (xs ++ e :: ys)) (hk : e.1 < k) : look k (xs ++ e :: ys) = look k ys := by
  obtain ⟨_, _, h3, _⟩ := h.parts
  rw [look_append, look_cons, if_neg (by omega), look_none (xs := xs) (fun a ha => by have := h3 a ha; omega), Option.none_or]
theorem look_at {e : Int × Kn} (h : Up (xs ++ e :: ys)) : look e.1 (xs ++ e :: ys) = some e.2 := by
  obtain ⟨_, _, h3, _⟩ := h.parts
  rw [look_append, look_cons, if_pos rfl, look_none (xs := xs) (fun a ha => by have := h3 a ha; omega), Option.none_or]
end
theorem Tr.addr_nil : Tr.nil.addr = none := rfl
theorem Tr.addr_node (b : Nat) (k : Int) (v : Kn) (l r : Tr) : (node b k v l r).addr = some ⟨b, 0, none⟩ := rfl
theorem drewN_trans {w w' : World} (h : ∃ m, w' = w.drewN m) (n : Nat) : ∃ m, w'.drewN n = w.drewN m := by
  obtain ⟨m, rfl⟩ := h
  exact ⟨m + n, by rw [World.drewN_drewN]⟩
theorem Tr.Lies.of_drewN {w w' : World} {t : Tr} (h : t.Lies w) (hw : ∃ m, w' = w.drewN m) : t.Lies w' := by
  obtain ⟨m, rfl⟩ := hw
  exact h.drewN m
/-- what seek finds. -/
def Found (k : Int) (xs : List (Int × Kn)) (w : World) (p : Tr) : Prop := (p = .nil ∧ look k xs = none) ∨ ∃ b v l r, p = node b k v l r ∧ look k xs = some v ∧ p.Lies w
theorem quiet_b {P : Program} {f : Nat} {args : Array Value} {w : World} {v : Value} (h : Calls P f args w fun e w' => e = .returned v ∧ w' = w) : Calls P f args w fun e w' => e = .returned v ∧ ∃ m, w' = w.drewN m := h.mono fun _ _ ⟨h1, h2⟩ => ⟨h1, 0, h2⟩
set_option maxHeartbeats 2000000 in
theorem seek_some {w : World} {g : Nat} {t : Tr} (h : At w g t) (k : Int) :
    Calls Tryd.prog 48 #[.pointer (some ⟨g, 0, none⟩), .int .u64 k] w fun e w' => ∃ p : Tr, e = .returned (.tuple #[.int .i64 ((lo k t.list).length : Int), .pointer p.addr]) ∧ Hid (Found k t.list w p) ∧ ∃ m, w' = w.drewN m := by
  have W := Lib.hid (whole_some h.c1)
  have X := Lib.hid h
  have D0 : Hid (∀ w', (∃ m, w' = w.drewN m) → w'.cell? ⟨g, 0, none⟩ = some ordV) := fun w' ⟨m, hm⟩ => by rw [hm]; exact h.c0
  clear h
  go_enter Tryd.func48, Tryd.ntmps48
  go_wp2_with fail
  refine W.out.mono ?_
  rintro e w1 ⟨rfl, rfl⟩
  go_wp2_with fail
  go_loopw [6, 7] (fun i p wr => ∃ (q : Tr) (n : Nat), i = .int .i64 (n : Int) ∧ p = .pointer q.addr ∧ Hid ((∃ m, wr = w1.drewN m) ∧ q.Lies w1 ∧ Up q.list ∧ n + (lo k q.list).length = (lo k t.list).length ∧ n + q.list.length ≤ t.list.length ∧ look k t.list = look k q.list)) (fun _ p _ => Tr.many p w1)
  case atStart => exact ⟨t, 0, rfl, rfl, Lib.hid ⟨⟨0, rfl⟩, X.out.lies, X.out.up, by omega, by omega, rfl⟩⟩
  case round =>
    obtain ⟨q, n, rfl, rfl, hq⟩ := hrel
    obtain ⟨h0, h1, h2, h3, h4, h5⟩ := hq.out
    have H0 := Lib.hid h0
    clear hq
    have hlen := X.out.fits
    cases q with
    | nil =>
      have Y : Hid ((lo k t.list).length = n ∧ look k t.list = none) := ⟨by rw [← h3]; simp [Tr.list, lo], by rw [h5]; rfl⟩
      clear h0 h1 h2 h3 h4 h5
      rw [Tr.addr_nil]
      go_wp2
      go_ret2
      refine ⟨.nil, ?_, Lib.hid (.inl ⟨rfl, Y.out.2⟩), H0.out⟩
      rw [Y.out.1]; rfl
    | node b k0 v0 l r =>
      have hc := h1.of_drewN h0
      have c0 := hc.c0
      have c2 := hc.c2
      have c3 := hc.c3
      have c9 := D0.out _ h0
      have C := Lib.hid (count_any hc.2.1)
      rw [Tr.len_node] at h4
      have hl1 : n + l.list.length < 1000000000000000000 := by omega
      have Z := Lib.hid h1
      rcases Int.lt_trichotomy k k0 with hk | rfl | hk
      · have O : Hid (∀ q, Calls Tryd.prog 44 #[.int .u64 k, .int .u64 k0] (wr.drewN q) fun e w' => e = .returned (.int .i64 (-1)) ∧ ∃ p, w' = (wr.drewN q).drewN p) := fun q => quiet_b (order_lt hk _)
        have Y : Hid (l.Lies w1 ∧ Up l.list ∧ n + (lo k l.list).length = (lo k t.list).length ∧ n + l.list.length ≤ t.list.length ∧ look k t.list = look k l.list) :=
          ⟨h1.2.1, h2.parts.1, by rw [← h3, Tr.list_node, (sides_below h2 hk).1], by omega, by rw [h5, Tr.list_node, look_below h2 hk]⟩
        clear h0 h1 h2 h3 h4 h5 hk hc
        rw [Tr.addr_node]
        go_wp2_with fail
        refine C.out.mono ?_
        rintro e w2 ⟨rfl, rfl⟩
        go_wp2_with fail
        go_quiet (first | (go_at_call 44; exact Calls.quiet_of (O.out _)))
        go_wp2
        go_roundw
        case rel => exact ⟨l, n, rfl, rfl, Lib.hid ⟨drewN_trans H0.out _, Y.out⟩⟩
        case measure =>
          have e1 := Z.out.many
          have e2 := Y.out.1.many
          rw [Tr.addr_node] at e1
          rw [e1, e2, Tr.len_node b k0 v0]; omega
      · have O : Hid (∀ q, Calls Tryd.prog 44 #[.int .u64 k, .int .u64 k] (wr.drewN q) fun e w' => e = .returned (.int .i64 0) ∧ ∃ p, w' = (wr.drewN q).drewN p) := fun q => quiet_b (order_eq k _)
        have Y : Hid (n + l.list.length = (lo k t.list).length ∧ look k t.list = some v0) :=
          ⟨by rw [← h3, Tr.list_node, (sides_at (e := (k, v0)) h2).1], by rw [h5, Tr.list_node]; exact look_at (e := (k, v0)) h2⟩
        clear h0 h1 h2 h3 h4 h5 hc
        rw [Tr.addr_node]
        go_wp2_with fail
        refine C.out.mono ?_
        rintro e w2 ⟨rfl, rfl⟩
        go_wp2_with fail
        go_quiet (first | (go_at_call 44; exact Calls.quiet_of (O.out _)))
        go_wp2
        go_ret2
        refine ⟨node b k v0 l r, ?_, Lib.hid (.inr ⟨b, v0, l, r, rfl, Y.out.2, Z.out⟩), drewN_trans H0.out _⟩
        rw [← Y.out.1]; rfl
      · have O : Hid (∀ q, Calls Tryd.prog 44 #[.int .u64 k, .int .u64 k0] (wr.drewN q) fun e w' => e = .returned (.int .i64 1) ∧ ∃ p, w' = (wr.drewN q).drewN p) := fun q => quiet_b (order_gt hk _)
        have Y : Hid (r.Lies w1 ∧ Up r.list ∧ n + (l.list.length + 1) + (lo k r.list).length = (lo k t.list).length ∧ n + (l.list.length + 1) + r.list.length ≤ t.list.length ∧ look k t.list = look k r.list) :=
          ⟨h1.2.2, h2.parts.2.1, by rw [← h3, Tr.list_node, (sides_above h2 hk).1]; simp; omega, by omega, by rw [h5, Tr.list_node, look_above h2 hk]⟩
        clear h0 h1 h2 h3 h4 h5 hk hc
        rw [Tr.addr_node]
        go_wp2_with fail
        refine C.out.mono ?_
        rintro e w2 ⟨rfl, rfl⟩
        go_wp2_with fail
        go_quiet (first | (go_at_call 44; exact Calls.quiet_of (O.out _)))
        go_wp2
        go_roundw
        case rel => exact ⟨r, n + (l.list.length + 1), by simp, rfl, Lib.hid ⟨drewN_trans H0.out _, Y.out⟩⟩
        case measure =>
          have e1 := Z.out.many
          have e2 := Y.out.1.many
          rw [Tr.addr_node] at e1
          rw [e1, e2, Tr.len_node b k0 v0]; omega
end Go.Proofs.YtnhpcjiieagjnaaDoor.rk
