/-
  exact.New and (*Exact).Push by their contracts; the laws' helper awake.
-/
import Derived.Test.YtnhpcjiieagjnaaDoorRkEx
namespace Go.Proofs.YtnhpcjiieagjnaaDoor.rk
open Go.RowKit
open Xg (Added)
set_option maxHeartbeats 1000000 in
theorem new_exact (c : Int) (w : World) : Calls Tryd.prog 7 #[.int .i64 c] w fun r B => ∃ X, r = .returned (.pointer (some ⟨X, 0, none⟩)) ∧ Hid (∃ g, Xg B X g .nil (min (max c 1) 4096).toNat es0 ∧ Below w.heap.size w B ∧ w.heap.size ≤ X) := by
  obtain ⟨l, hl⟩ : ∃ l : Int, min (max c 1) 4096 = l := ⟨_, rfl⟩
  obtain ⟨lim, hlim⟩ : ∃ lim : Nat, l.toNat = lim := ⟨_, rfl⟩
  rw [hl, hlim]
  have h1 : l = (lim : Int) := by omega
  subst h1
  have T : Hid (Calls Tryd.prog 21 #[] w fun r B => ∃ g, r = .returned (.pointer (some ⟨g, 0, none⟩)) ∧ Hid (∀ C, B.alloc (.cells #[.pointer (some ⟨g, 0, none⟩), .int .i64 (lim : Int), .int .i64 0] 56) = C → ∃ g, Xg C B.heap.size g .nil lim es0 ∧ Below w.heap.size w C ∧ w.heap.size ≤ B.heap.size)) :=
    (noKeys_any w).mono fun r B ⟨g, he, ho⟩ => ⟨g, he, fun C hC => by
      have hb : Below B.heap.size B C := by rw [← hC]; exact (Below.refl _ _).alloc (Nat.le_refl _) _
      have hz := ho.out.2.size
      refine ⟨g, ⟨by rw [← hC]; exact heap_next rfl _, ho.out.1.below hb, Rep.start, fun _ => Nat.zero_le _⟩, ho.out.2.trans (hb.mono hz), hz⟩⟩
  clear hlim
  go_enter Tryd.func7, Tryd.ntmps7
  go_wp2_with fail
  refine T.out.mono ?_
  rintro r w1 ⟨g, rfl, ho⟩
  go_wp2
  go_ret
  exact ⟨_, rfl, ho.out _ rfl⟩
/-- the slice at p reads as the words l; its block is one of K. -/
def Ks (K : Nat → Prop) (w : World) (p : Option Addr) (l : List Nat) : Prop :=
  0 < l.length → ∃ b o, p = some ⟨b, o, none⟩ ∧ K b ∧ ∀ i (h : i < l.length), w.cell? ⟨b, o + i, none⟩ = some (.int .u64 (l[i] : Int)) ∧ l[i] < 18446744073709551616
theorem Ks.at_ {K : Nat → Prop} {w W : World} {p : Option Addr} {l : List Nat} (h : Ks K w p l) (hk : Keep K w W) (j : Nat) (hj : j < l.length) : ∃ b o x, p = some ⟨b, o, none⟩ ∧ l[j]? = some x ∧ x < 18446744073709551616 ∧ W.cell? ⟨b, o + j, none⟩ = some (.int .u64 (x : Int)) := by
  obtain ⟨b, o, rfl, hK, hi⟩ := h (by omega)
  obtain ⟨h1, h2⟩ := hi j hj
  exact ⟨b, o, l[j], rfl, by simp [hj], h2, (hk.cell (p := ⟨b, o + j, none⟩) (World.block_lt_of_cell? w ⟨b, o + j, none⟩ h1) hK).trans h1⟩
theorem Ks.keep {K : Nat → Prop} {w W : World} {p : Option Addr} {l : List Nat} (h : Ks K w p l) (hk : Keep K w W) : Ks K W p l := fun h0 => by
  obtain ⟨b, o, hp, hK, hi⟩ := h h0
  exact ⟨b, o, hp, hK, fun i hil => ⟨(hk.cell (p := ⟨b, o + i, none⟩) (World.block_lt_of_cell? w ⟨b, o + i, none⟩ (hi i hil).1) hK).trans (hi i hil).1, (hi i hil).2⟩⟩
/-- one key after another. -/
def pushE (lim : Nat) (l : List Nat) (e : Ez) : Ez := l.foldl (fun e x => addE lim x e) e
theorem pushE_next (lim : Nat) (l : List Nat) (e : Ez) (j x : Nat) (h : l[j]? = some x) : pushE lim (l.take (j + 1)) e = addE lim x (pushE lim (l.take j) e) := by
  obtain ⟨hj, rfl⟩ := List.getElem?_eq_some_iff.1 h
  rw [List.take_succ_eq_append_getElem hj, pushE, List.foldl_append]
  rfl
theorem run_push (lim : Nat) (l : List Nat) : runE lim l = pushE lim l es0 := rfl
theorem addE_cnt {lim x : Nat} {e : Ez} (h : e.cnt < lim) : (addE lim x e).cnt < lim := by
  unfold addE
  by_cases h1 : e.cnt + 1 = lim
  · rw [if_pos h1]; show 0 < lim; omega
  · rw [if_neg h1]; show e.cnt + 1 < lim; omega
theorem pushE_cnt {lim : Nat} : ∀ {l : List Nat} {e : Ez}, e.cnt < lim → (pushE lim l e).cnt < lim
  | [], _, h => h
  | x :: l, e, h => pushE_cnt (l := l) (e := addE lim x e) (addE_cnt h)
set_option maxHeartbeats 1000000 in
theorem push_any {W : World} {X g lim : Nat} {t : Tr} {e : Ez} (h : Xg W X g t lim e) (hlim : lim ≤ 4096) (hc : e.cnt < lim) (p : Option Addr) (cap : Nat) (l : List Nat) (hk : Ks (fun k => k ≠ X) W p l) (hl : t.list.length + l.length ≤ 1000000) :
    Calls Tryd.prog 17 #[.pointer (some ⟨X, 0, none⟩), .slice p l.length cap] W fun r B => r = .returned (.tuple #[]) ∧ Hid (Added W X lim (t.list.length + l.length) (pushE lim l e) B) := by
  have G : Hid (∀ j V, j < l.length → Hid (Added W X lim (t.list.length + j) (pushE lim (l.take j) e) V) → ∃ b o x, p = some ⟨b, o, none⟩ ∧ V.cell? ⟨b, o + j, none⟩ = some (.int .u64 (x : Int)) ∧ Hid (Calls Tryd.prog 9 #[.pointer (some ⟨X, 0, none⟩), .int .u64 (x : Int)] V fun r B => r = .returned (.tuple #[]) ∧ Hid (Added W X lim (t.list.length + (j + 1)) (pushE lim (l.take (j + 1)) e) B))) := fun j V hj hV => by
    obtain ⟨g1, t1, h1, h2, h3⟩ := hV.out
    obtain ⟨b, o, x, hp, hx, hlt, hcell⟩ := hk.at_ h2 j hj
    refine ⟨b, o, x, hp, hcell, (h1.add_any x hlim (pushE_cnt hc) (by omega)).mono fun r B ⟨he, ho⟩ => ⟨he, ?_⟩⟩
    obtain ⟨g2, t2, q1, q2, q3⟩ := ho.out
    exact ⟨g2, t2, by rw [pushE_next lim l e j x hx]; exact q1, h2.trans q2, by omega⟩
  have N0 : Hid (Added W X lim (t.list.length + 0) (pushE lim (l.take 0) e) W) := ⟨g, t, h, .refl _ _, Nat.le_refl _⟩
  have D : Hid (∀ V, Hid (Added W X lim (t.list.length + l.length) (pushE lim (l.take l.length) e) V) → Hid (Added W X lim (t.list.length + l.length) (pushE lim l e) V)) := fun V hV => by
    rw [List.take_length] at hV
    exact hV
  obtain ⟨Z, hZ⟩ : ∃ Z : Nat → World → Prop, (fun j V => Added W X lim (t.list.length + j) (pushE lim (l.take j) e) V) = Z := ⟨_, rfl⟩
  have G' : Hid (∀ j V, j < l.length → Hid (Z j V) → ∃ b o x, p = some ⟨b, o, none⟩ ∧ V.cell? ⟨b, o + j, none⟩ = some (.int .u64 (x : Int)) ∧ Hid (Calls Tryd.prog 9 #[.pointer (some ⟨X, 0, none⟩), .int .u64 (x : Int)] V fun r B => r = .returned (.tuple #[]) ∧ Hid (Z (j + 1) B))) := by
    subst hZ
    exact G
  have N0' : Hid (Z 0 W) := by subst hZ; exact N0
  have D' : Hid (∀ V, Hid (Z l.length V) → Hid (Added W X lim (t.list.length + l.length) (pushE lim l e) V)) := by subst hZ; exact D
  have hlen : l.length ≤ 1000000 := by omega
  clear G N0 D hZ hk h hl hc
  generalize Added W X lim (t.list.length + l.length) (pushE lim l e) = y at *
  generalize l.length = len at *
  go_enter Tryd.func17, Tryd.ntmps17
  go_wp2_with fail
  go_loopw [8] (fun i wr => ∃ j : Nat, j ≤ len ∧ i = .int .i64 j ∧ Hid (Z j wr)) (fun i _ => len - (intOf i).toNat)
  case atStart => exact ⟨0, by omega, rfl, N0'⟩
  case round =>
    obtain ⟨j, hj, rfl, hH⟩ := hrel
    by_cases hlt : j < len
    · obtain ⟨b, o, x, rfl, d0, P⟩ := G'.out j wr hlt hH
      have h1 : (0 : Int) ≤ (j : Int) := by omega
      have h2 : (j : Int) < (len : Int) := by omega
      clear G'
      go_wp2_with fail
      refine P.out.mono ?_
      rintro r w2 ⟨rfl, q2⟩
      go_wp2
      go_roundw
      case rel => exact ⟨j + 1, by omega, by simp, q2⟩
      case measure => simp [intOf]; omega
    · obtain rfl : j = len := by omega
      go_wp2
      go_end0
      exact ⟨rfl, D'.out _ hH⟩
end Go.Proofs.YtnhpcjiieagjnaaDoor.rk
