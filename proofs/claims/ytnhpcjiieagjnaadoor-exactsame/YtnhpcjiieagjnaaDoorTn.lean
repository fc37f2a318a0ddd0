/-
  tiny.New and (*Tiny).Push by their contracts; the laws' helper awake.
-/
import Derived.Test.YtnhpcjiieagjnaaDoorTm
namespace Go.Proofs.YtnhpcjiieagjnaaDoor
open Go.RowKit
open nb (Keep ct cell_of frozen_of heap_set heap_set_other heap_old heap_next heap_lt)
/-- what New makes a tiny of. -/
def csN (c : Int) (seed : Nat) : Cs := ⟨seed, sk.wdN (min (max c 1) 4096), dr.bdN (min (max c 1) 4096), (min (max c 1) 4096).toNat⟩
def zs0 (c : Cs) : Zs := ⟨zerosS c, zerosD c, 0, 0⟩
theorem lim_pos (c : Int) (seed : Nat) : 0 < (csN c seed).lim ∧ (csN c seed).lim ≤ 4096 := by unfold csN; simp only; omega
theorem since_self {w0 w : World} (h : mx.Since w0 w) : mx.Since w w := ⟨⟨h.pos, fun i hi => h.cell i hi⟩, Below.refl _ _⟩
/-- the parts in their places. -/
theorem At.start {w w1 w2 : World} {l : Int} {seed D G : Nat} {lim : Nat} (hs : mx.Since w w) (h1 : sk.Sk w1 w.heap.size seed (sk.wdN l) (fun _ => List.replicate (sk.wdN l) 0)) (hb1 : Below w.heap.size w w1) (h2 : dr.At w1 D G (dr.mixF seed) (List.replicate (dr.bdN l) 0) w2) (hl : lim ≤ 4096) (o : Obj) :
    At w ⟨w.heap.size, D, G, w2.heap.size + 1⟩ ⟨seed, sk.wdN l, dr.bdN l, lim⟩ (zs0 ⟨seed, sk.wdN l, dr.bdN l, lim⟩) ((w2.alloc o).alloc (.cells #[.pointer (some ⟨w.heap.size, 0, none⟩), .pointer (some ⟨D, 0, none⟩), .int .i64 (lim : Int), .int .i64 0, .int .i64 0] 52)) := by
  have hlt := h1.lt
  have hD := h2.le
  have hG := h2.le'
  have hz := h2.old.2.size
  obtain ⟨d1, d2⟩ := h2.lts
  have hbe : Below w2.heap.size w2 ((w2.alloc o).alloc (.cells #[.pointer (some ⟨w.heap.size, 0, none⟩), .pointer (some ⟨D, 0, none⟩), .int .i64 (lim : Int), .int .i64 0, .int .i64 0] 52)) := ((Below.refl _ _).alloc (Nat.le_refl _) _).alloc (by simp) _
  have hs2 : mx.Since w ((w2.alloc o).alloc (.cells #[.pointer (some ⟨w.heap.size, 0, none⟩), .pointer (some ⟨D, 0, none⟩), .int .i64 (lim : Int), .int .i64 0, .int .i64 0] 52)) := ⟨hs.1, hb1.trans ((h2.old.2.trans (hbe.mono hz)).mono hb1.size)⟩
  refine ⟨heap_next (by simp) _, ⟨(h1.below h2.old.2).below hbe, hs2, Nat.le_refl _⟩, ⟨h2.dr.below hbe, hs2, ?_, ?_⟩, ?_, ?_, ?_, ?_, ?_, List.length_replicate .., hl⟩ <;> simp only <;> omega
set_option maxHeartbeats 1000000 in
theorem new_any (c : Int) (seed : Nat) (hseed : seed < 18446744073709551616) (w : World) (hs : mx.Since w w) : Calls Tryd.prog 6 #[.int .i64 c, .int .u64 (seed : Int)] w fun e B => ∃ a, e = .returned (.pointer (some ⟨a.T, 0, none⟩)) ∧ Hid (At w a (csN c seed) (zs0 (csN c seed)) B) := by
  obtain ⟨l, hl⟩ : ∃ l : Int, min (max c 1) 4096 = l := ⟨_, rfl⟩
  obtain ⟨lim, hlim⟩ : ∃ lim : Nat, l.toNat = lim := ⟨_, rfl⟩
  have e : csN c seed = ⟨seed, sk.wdN l, dr.bdN l, lim⟩ := by unfold csN; rw [hl, hlim]
  rw [e]
  have h1 : l = (lim : Int) ∧ lim ≤ 4096 := by omega
  obtain ⟨rfl, h4⟩ := h1
  obtain ⟨S, hS⟩ : ∃ S, w.heap.size = S := ⟨_, rfl⟩
  have T : Hid (Calls Tryd.prog 19 #[.int .i64 (lim : Int), .int .u64 (seed : Int)] w fun e B => e = .returned (.pointer (some ⟨S, 0, none⟩)) ∧ Hid (Calls Tryd.prog 20 #[.int .i64 (lim : Int), .int .u64 (seed : Int)] B fun e B2 => ∃ D G, e = .returned (.pointer (some ⟨D, 0, none⟩)) ∧ Hid (∀ o, At w ⟨S, D, G, B2.heap.size + 1⟩ ⟨seed, sk.wdN (lim : Int), dr.bdN (lim : Int), lim⟩ (zs0 ⟨seed, sk.wdN (lim : Int), dr.bdN (lim : Int), lim⟩) ((B2.alloc o).alloc (.cells #[.pointer (some ⟨S, 0, none⟩), .pointer (some ⟨D, 0, none⟩), .int .i64 (lim : Int), .int .i64 0, .int .i64 0] 52))))) :=
    (sk.new_any (lim : Int) seed hseed w).mono fun e B ⟨he, h5, h6⟩ => ⟨by rw [he, hS], (dr.new_any (lim : Int) seed hseed B (since_self (hs.next h6))).mono fun e B2 ⟨D, G, he2, h7⟩ => ⟨D, G, he2, fun o => by
      have := At.start hs h5 h6 h7 h4 o
      rw [hS] at this
      exact this⟩⟩
  clear hs e hlim
  generalize (⟨seed, sk.wdN (lim : Int), dr.bdN (lim : Int), lim⟩ : Cs) = y at *
  go_enter Tryd.func6, Tryd.ntmps6
  go_wp2_with fail
  refine T.out.mono ?_
  rintro e w1 ⟨rfl, T2⟩
  go_wp2_with fail
  refine T2.out.mono ?_
  rintro e w2 ⟨D, G, rfl, Q⟩
  clear T T2
  go_wp2_with fail
  go_ret
  exact ⟨_, rfl, Q.out _⟩
/-- the slice at p reads as the words l; its block is one of K. -/
def Ks (K : Nat → Prop) (w : World) (p : Option Addr) (l : List Nat) : Prop :=
  0 < l.length → ∃ b o, p = some ⟨b, o, none⟩ ∧ K b ∧ ∀ i (h : i < l.length), w.cell? ⟨b, o + i, none⟩ = some (.int .u64 (l[i] : Int)) ∧ l[i] < 18446744073709551616
theorem Ks.at_ {K : Nat → Prop} {w W : World} {p : Option Addr} {l : List Nat} (h : Ks K w p l) (hk : Keep K w W) (j : Nat) (hj : j < l.length) : ∃ b o x, p = some ⟨b, o, none⟩ ∧ l[j]? = some x ∧ x < 18446744073709551616 ∧ W.cell? ⟨b, o + j, none⟩ = some (.int .u64 (x : Int)) := by
  obtain ⟨b, o, rfl, hK, hi⟩ := h (by omega)
  obtain ⟨h1, h2⟩ := hi j hj
  exact ⟨b, o, l[j], rfl, by simp [hj], h2, (hk.cell (p := ⟨b, o + j, none⟩) (World.block_lt_of_cell? w ⟨b, o + j, none⟩ h1) hK).trans h1⟩
theorem Ks.keep {K : Nat → Prop} {w W : World} {p : Option Addr} {l : List Nat} (h : Ks K w p l) (hk : Keep K w W) : Ks K W p l := fun h0 => by
  obtain ⟨b, o, hp, hK, hi⟩ := h h0
  exact ⟨b, o, hp, hK, fun i hil => ⟨(hk.cell (p := ⟨b, o + i, none⟩) (World.block_lt_of_cell? w ⟨b, o + i, none⟩ (hi i hil).1) hK).trans (hi i hil).1, (hi i hil).2⟩⟩
/-- one key after another. -/
noncomputable def pushZ (c : Cs) (l : List Nat) (z : Zs) : Zs := l.foldl (fun z x => addZ c x z) z
theorem push_nil (c : Cs) (z : Zs) : pushZ c [] z = z := rfl
theorem push_next (c : Cs) (l : List Nat) (z : Zs) (j x : Nat) (h : l[j]? = some x) : pushZ c (l.take (j + 1)) z = addZ c x (pushZ c (l.take j) z) := by
  obtain ⟨hj, rfl⟩ := List.getElem?_eq_some_iff.1 h
  rw [List.take_succ_eq_append_getElem hj, pushZ, List.foldl_append]
  rfl
theorem push_all (c : Cs) (l : List Nat) (z : Zs) : pushZ c (l.take l.length) z = pushZ c l z := by rw [List.take_length]
/-- the count stands below the limit, and all was aged so often at most. -/
def Ok (c : Cs) (k : Nat) (z : Zs) : Prop := z.cnt < c.lim ∧ z.aged ≤ k
theorem Ok.add {c : Cs} {k : Nat} {z : Zs} (h : Ok c k z) (x : Nat) : Ok c (k + 1) (addZ c x z) := by
  obtain ⟨h1, h2⟩ := h
  unfold addZ
  by_cases e : z.cnt + 1 = c.lim
  · rw [if_pos e]
    exact ⟨by show 0 < _; omega, by show z.aged + 1 ≤ _; omega⟩
  · rw [if_neg e]
    exact ⟨by show z.cnt + 1 < _; omega, by show z.aged ≤ _; omega⟩
theorem Ok.push {c : Cs} {k : Nat} : ∀ {l : List Nat} {z : Zs}, Ok c k z → Ok c (k + l.length) (pushZ c l z)
  | [], _, h => h
  | x :: l, z, h => by
    have := (h.add x).push (l := l)
    rw [List.length_cons, show k + (l.length + 1) = k + 1 + l.length by omega]
    exact this
theorem Ok.mono {c : Cs} {k k' : Nat} {z : Zs} (h : Ok c k z) (hk : k ≤ k') : Ok c k' z := ⟨h.1, Nat.le_trans h.2 hk⟩
theorem Ok.start (c : Int) (seed : Nat) : Ok (csN c seed) 0 (zs0 (csN c seed)) := ⟨(lim_pos c seed).1, Nat.le_refl _⟩
end Go.Proofs.YtnhpcjiieagjnaaDoor
