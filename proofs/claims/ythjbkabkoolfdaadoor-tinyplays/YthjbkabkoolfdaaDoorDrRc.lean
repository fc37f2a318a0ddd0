/-
  The document's door (cortadoref12): Put by its contract.
-/
import Derived.Test.YthjbkabkoolfdaaDoorDrRb
import Derived.RegionTactic
import Derived.Deep.RegionWith
import Derived.Deep.RegionLaw
namespace Go.Proofs.YthjbkabkoolfdaaDoor.dr
open Go.RowKit
/-- a row of bits of one's own, from the beginning of block s on. -/
structure Wb (W : World) (s c : Nat) (l : List Nat) : Prop where
  cap : l.length ≤ c
  ex : ∃ cur : Array Value, W.heap[s]? = some (.cells cur 4 (0, 0)) ∧ ∀ i (h : i < l.length), cur[i]? = some (eb l[i])
namespace Wb
variable {W B : World} {s c : Nat} {l : List Nat}
theorem of_own {base : Nat} {v : Value} (h : W.ownsRow base 4 1 v l.length (l.map eb)) (hp : 0 < l.length) : ∃ s c, v = .slice (some ⟨s, 0, none⟩) l.length c ∧ Wb W s c l ∧ base ≤ s := by
  have hq := Q.of_own h
  rcases h.2 with ⟨_, h0⟩ | ⟨s, c, cur, rfl, hb, hs, hc, rest⟩
  · omega
  · refine ⟨s, c, rfl, ⟨hc, cur, hs, fun i hi => ?_⟩, hb⟩
    obtain ⟨b, o, cap, hv, hcell⟩ := hq.at_ i hi
    obtain ⟨e1, -, -⟩ := Value.slice.inj hv
    simp only [Option.some.injEq, Addr.mk.injEq, and_true] at e1
    obtain ⟨rfl, rfl⟩ := e1
    rw [Nat.zero_add, cell_of hs] at hcell
    rw [hcell]
    simp [ct, hi]
theorem q (h : Wb W s c l) : Q eb W (.slice (some ⟨s, 0, none⟩) l.length c) l := by
  obtain ⟨cur, hs, hc⟩ := h.ex
  exact .inr ⟨s, 0, c, rfl, h.cap, fun i hi => by rw [Nat.zero_add, cell_of hs]; exact hc i hi⟩
theorem at_ (h : Wb W s c l) (i : Nat) (hi : i < l.length) : W.cell? ⟨s, i, none⟩ = some (eb l[i]) ∧ W.frozen? ⟨s, i, none⟩ = false := by
  obtain ⟨cur, hs, hc⟩ := h.ex
  exact ⟨by rw [cell_of hs]; exact hc i hi, frozen_of hs i⟩
theorem keep {K : Nat → Prop} (h : Wb W s c l) (hk : Keep K W B) (hK : K s) : Wb B s c l := by
  obtain ⟨cur, hs, hc⟩ := h.ex
  exact ⟨h.cap, cur, hk.heap hs hK, hc⟩
theorem set (h : Wb W s c l) (i : Nat) (hi : i < l.length) : Wb (W.setCell ⟨s, i, none⟩ (.bool true)) s c (l.set i 1) := by
  obtain ⟨cur, hs, hc⟩ := h.ex
  have hz : i < cur.size := (Array.getElem?_eq_some_iff.1 (hc i hi)).1
  refine ⟨by simpa using h.cap, _, heap_set hs i _, fun j hj => ?_⟩
  rw [List.length_set] at hj
  by_cases e : j = i
  · subst e; simp [hz]
  · rw [Array.getElem?_setIfInBounds_ne (Ne.symm e), hc j hj, List.getElem_set_ne (Ne.symm e)]
theorem lt (h : Wb W s c l) : s < W.heap.size := by obtain ⟨cur, hs, _⟩ := h.ex; exact heap_lt hs
end Wb
/-- a copy of a row of bits: 'append([]bool{}, l...)'. -/
theorem copy_b {W : World} {v : Value} {l : List Nat} (h : Q eb W v l) (hp : 0 < l.length) (hl : l.length ≤ 100000) {E : Nat} (hE : W.heap[E]? = some (.cells #[] 4 (0, 0))) (hown : W.ownsRow E 4 1 (.slice (some ⟨E, 0, none⟩) 0 0) 0 []) (ty : TypeId) :
    ∃ v' w', (Builtin.append_ #[30, 30] ty #[.slice (some ⟨E, 0, none⟩) 0 0, v]).run Tryd.prog W = .ok v' w' ∧ ∃ s c, v' = .slice (some ⟨s, 0, none⟩) l.length c ∧ Wb w' s c l ∧ E ≤ s ∧ Keep (fun k => k ≠ E) W w' ∧ (s = E ∨ s = W.heap.size) := by
  rcases h with ⟨_, rfl⟩ | ⟨b, o, cap, rfl, hc, hi⟩
  · simp at hp
  · obtain ⟨s, c, w', hr, ho, hg, hat⟩ := app_row info_o Tryd.underlying30 (by rfl) (by decide) hown b o cap (ys := l.map eb) (fun u hu => by obtain ⟨x, _, rfl⟩ := List.mem_map.1 hu; rfl) (fun j u hu => by
      rw [List.getElem?_map, Option.map_eq_some_iff] at hu
      obtain ⟨x, hx, rfl⟩ := hu
      obtain ⟨hj, rfl⟩ := List.getElem?_eq_some_iff.1 hx
      exact hi j hj) (by simpa using hp) (by simp; omega) (by have := heap_lt hE; omega) ty
    simp only [Nat.zero_add, List.nil_append, List.length_map] at hr ho
    obtain ⟨s', c', hv, hw, hb⟩ := Wb.of_own ho hp
    obtain ⟨e1, -, rfl⟩ := Value.slice.inj hv
    simp only [Option.some.injEq, Addr.mk.injEq, and_true] at e1
    subst e1
    refine ⟨_, w', hr, s, c, rfl, hw, hb, Keep.grown hg fun k hk e => ?_, ?_⟩
    · simp [Value.ownBlock] at hk
      omega
    · rcases hat with hat | hat
      · simp [Value.ownBlock] at hat
        exact .inl hat.symm
      · exact .inr hat
set_option maxHeartbeats 2000000 in
theorem refput_had {w : World} {v0 : Value} {bs : List Nat} (seed x : Nat) (hs : seed < 18446744073709551616) (hx : x < 18446744073709551616) (h : Q eb w v0 (ub bs)) (hp : 0 < bs.length) (hl : bs.length ≤ 4096) (hh : hasB (plN (mixF seed) (8 * bs.length) x) bs = true) :
    Calls Tryd.prog 34 #[dv v0 seed, .int .u64 (x : Int)] w fun e B => e = .returned (.tuple #[dv v0 seed, .bool false]) ∧ Below w.heap.size w B := by
  obtain ⟨N, hN⟩ : ∃ N, w.heap.size = N := ⟨_, rfl⟩
  obtain ⟨W1, hW1⟩ : ∃ W1, (w.alloc (.cells #[v0, .int .u64 (seed : Int)] 32)).alloc (.cells #[.slice none 0 0, .int .u64 0] 32) = W1 := ⟨_, rfl⟩
  have hr1 : W1.heap[N]? = some (.cells #[v0, .int .u64 (seed : Int)] 32 (0, 0)) := by rw [← hW1]; exact heap_old (arg_box w N hN _ _)
  have hr2 : W1.heap[N + 1]? = some (.cells #[.slice none 0 0, .int .u64 0] 32 (0, 0)) := by rw [← hW1]; exact heap_next (by simp [hN]) _
  have hb1 : Below N w W1 := by rw [← hW1]; exact ((Below.refl _ _).alloc (by omega) _).alloc (by simp; omega) _
  have c0 : W1.cell? ⟨N, 0, none⟩ = some v0 := by rw [cell_of hr1]; rfl
  have c1 : W1.cell? ⟨N, 1, none⟩ = some (.int .u64 (seed : Int)) := by rw [cell_of hr1]; rfl
  have T := refhas_any seed x hs hx (h.below (hN ▸ hb1)) hp hl
  rw [hh] at T
  have C : Hid (∀ W, Below W1.heap.size W1 W → (W.cell? ⟨N, 0, none⟩ = some v0 ∧ W.cell? ⟨N, 1, none⟩ = some (.int .u64 (seed : Int)) ∧ W.cell? ⟨N + 1, 0, none⟩ = some (.slice none 0 0) ∧ W.cell? ⟨N + 1, 1, none⟩ = some (.int .u64 0) ∧ W.frozen? ⟨N + 1, 0, none⟩ = false ∧ W.frozen? ⟨N + 1, 1, none⟩ = false) ∧ Hid (W.heap[N + 1]? = some (.cells #[.slice none 0 0, .int .u64 0] 32 (0, 0)) ∧ Below N w W)) := fun W hW => by
    have h1 := heap_lt hr2
    have g1 := (hW.block N (by omega)).trans hr1
    have g2 := (hW.block _ h1).trans hr2
    exact ⟨⟨by rw [cell_of g1]; rfl, by rw [cell_of g1]; rfl, by rw [cell_of g2]; rfl, by rw [cell_of g2]; rfl, frozen_of g2 0, frozen_of g2 1⟩, g2, hb1.trans (hW.mono (by omega))⟩
  have T := Lib.hid T
  obtain ⟨a0, k0, hv0, -⟩ := h.slice
  rw [ub_len] at hv0
  clear h hr1 hr2 hb1 hh
  generalize 8 * bs.length = n at *
  subst hv0
  rw [hN]
  go_enter Tryd.func34, Tryd.ntmps34
  go_wp2_with fail
  clear hW1
  refine T.out.mono ?_
  rintro e w2 ⟨rfl, hb2⟩
  obtain ⟨⟨d0, d1, d2, d3, f0, f1⟩, H⟩ := C.out w2 hb2
  clear C hb2 c0 c1
  go_wp2
  have h3 := put2 (.slice a0 n k0) (.int .u64 (seed : Int)) H.out.1
  have hk : Keep (fun b => b ≠ N + 1) w2 ((w2.setCell ⟨N + 1, 0, none⟩ (.slice a0 n k0)).setCell ⟨N + 1, 1, none⟩ (.int .u64 (seed : Int))) := (Keep.setCell _ _ _ fun h => h rfl).trans (Keep.setCell _ _ _ fun h => h rfl)
  generalize (w2.setCell ⟨N + 1, 0, none⟩ (.slice a0 n k0)).setCell ⟨N + 1, 1, none⟩ (.int .u64 (seed : Int)) = B3 at *
  have b0 : B3.cell? ⟨N + 1, 0, none⟩ = some (.slice a0 n k0) := by rw [cell_of h3]; rfl
  have b1 : B3.cell? ⟨N + 1, 1, none⟩ = some (.int .u64 (seed : Int)) := by rw [cell_of h3]; rfl
  refine bodyPost_ret (v := .tuple #[dv (.slice a0 n k0) seed, .bool false]) ?_ rfl ⟨rfl, H.out.2.trans (hk.below (fun b hb => by show b ≠ N + 1; omega) (by have := heap_lt H.out.1; omega))⟩
  simp [results, Tryd.results34, go_sem, b0, b1]
/-- what came out of the copy: the row, in a block of its own. -/
def Cp (N n seed : Nat) (v0 : Value) (l : List Nat) (W : World) (E : Nat) (v' : Value) (w' : World) : Prop :=
  ∃ s c, v' = .slice (some ⟨s, 0, none⟩) n c ∧ (w'.cell? ⟨N, 0, none⟩ = some v0 ∧ w'.cell? ⟨N, 1, none⟩ = some (.int .u64 (seed : Int)) ∧ (∀ o, (w'.alloc o).cell? ⟨N, 0, none⟩ = some v0 ∧ (w'.alloc o).cell? ⟨N, 1, none⟩ = some (.int .u64 (seed : Int))) ∧ ∀ X, X ≠ N → ∀ a b, ((w'.setCell ⟨X, 0, none⟩ a).setCell ⟨X, 1, none⟩ b).cell? ⟨N, 0, none⟩ = some v0 ∧ ((w'.setCell ⟨X, 0, none⟩ a).setCell ⟨X, 1, none⟩ b).cell? ⟨N, 1, none⟩ = some (.int .u64 (seed : Int))) ∧ Hid (Wb w' s c l ∧ Keep (fun k => k ≠ E) W w' ∧ (s = E ∨ s = W.heap.size))
theorem Cp.x {N n seed E X : Nat} {v0 v' : Value} {l : List Nat} {W w' : World} (h : Cp N n seed v0 l W E v' w') (hX : W.heap[X]? = some (.cells #[.slice none 0 0, .int .u64 0] 32 (0, 0))) (hne : X ≠ E) :
    w'.cell? ⟨X, 0, none⟩ = some (.slice none 0 0) ∧ w'.cell? ⟨X, 1, none⟩ = some (.int .u64 0) ∧ w'.frozen? ⟨X, 0, none⟩ = false ∧ w'.frozen? ⟨X, 1, none⟩ = false ∧ w'.heap[X]? = some (.cells #[.slice none 0 0, .int .u64 0] 32 (0, 0)) := by
  obtain ⟨s, c, _, _, q⟩ := h
  have g := q.out.2.1.heap hX hne
  exact ⟨by rw [cell_of g]; rfl, by rw [cell_of g]; rfl, frozen_of g 0, frozen_of g 1, g⟩
theorem empty_at {W : World} {k : Nat} (h : k = W.heap.size) : (W.alloc (.cells #[] 4)).ownsRow k 4 1 (.slice (some ⟨k, 0, none⟩) 0 0) 0 [] := by subst h; exact empty_own W 4 eb
/-- the copy in the box X, as many places made 1 as told. -/
structure Po (w : World) (N n seed : Nat) (v0 : Value) (X s c : Nat) (l : List Nat) (W : World) : Prop where
  arg : W.heap[N]? = some (.cells #[v0, .int .u64 (seed : Int)] 32 (0, 0))
  res : W.heap[N + 1]? = some (.cells #[.slice none 0 0, .int .u64 0] 32 (0, 0))
  box : W.heap[X]? = some (.cells #[.slice (some ⟨s, 0, none⟩) n c, .int .u64 (seed : Int)] 32 (0, 0))
  row : Wb W s c l
  len : l.length = n
  far : N + 1 < s ∧ N + 1 < X ∧ s ≠ X
  old : Below N w W
namespace Po
variable {w w2 w3 W B : World} {N n seed X s c E : Nat} {l : List Nat} {v0 : Value}
theorem of_set (g1 : w2.heap[N]? = some (.cells #[v0, .int .u64 (seed : Int)] 32 (0, 0))) (g2 : w2.heap[N + 1]? = some (.cells #[.slice none 0 0, .int .u64 0] 32 (0, 0))) (hb : Below N w w2) (hW : Keep (fun k => k < w2.heap.size) w2 W)
    (q : Wb w3 s c l ∧ Keep (fun k => k ≠ E) W w3 ∧ (s = E ∨ s = W.heap.size)) (hE : w2.heap.size ≤ E) (hX : w2.heap.size ≤ X) (hXE : X ≠ E) (hXW : X < W.heap.size) (x4 : w3.heap[X]? = some (.cells #[.slice none 0 0, .int .u64 0] 32 (0, 0))) (hl : l.length = n) :
    Po w N n seed v0 X s c l ((w3.setCell ⟨X, 0, none⟩ (.slice (some ⟨s, 0, none⟩) n c)).setCell ⟨X, 1, none⟩ (.int .u64 (seed : Int))) := by
  obtain ⟨q1, q2, q3⟩ := q
  have h1 := heap_lt g1
  have h2 := heap_lt g2
  have hz := hW.size
  have hsX : s ≠ X := by omega
  have k1 : Keep (fun k => k < w2.heap.size) w2 w3 := hW.trans (q2.mono fun k _ hk => by omega)
  have k2 : Keep (fun k => k ≠ X) w3 ((w3.setCell ⟨X, 0, none⟩ (.slice (some ⟨s, 0, none⟩) n c)).setCell ⟨X, 1, none⟩ (.int .u64 (seed : Int))) := (Keep.setCell _ _ _ fun h => h rfl).trans (Keep.setCell _ _ _ fun h => h rfl)
  have k3 := k1.trans (k2.mono (K' := fun k => k < w2.heap.size) fun k _ hk => by omega)
  exact ⟨k3.heap g1 h1, k3.heap g2 h2, put2 _ _ x4, q1.keep k2 hsX, hl, ⟨by omega, by omega, hsX⟩, hb.trans (k3.below (fun k hk => by omega) (by omega))⟩
theorem of_alloc (g1 : w2.heap[N]? = some (.cells #[v0, .int .u64 (seed : Int)] 32 (0, 0))) (g2 : w2.heap[N + 1]? = some (.cells #[.slice none 0 0, .int .u64 0] 32 (0, 0))) (hb : Below N w w2) (hW : Keep (fun k => k < w2.heap.size) w2 W)
    (q : Wb w3 s c l ∧ Keep (fun k => k ≠ E) W w3 ∧ (s = E ∨ s = W.heap.size)) (hE : w2.heap.size ≤ E) (hl : l.length = n) :
    Po w N n seed v0 w3.heap.size s c l (w3.alloc (.cells #[.slice (some ⟨s, 0, none⟩) n c, .int .u64 (seed : Int)] 32)) := by
  obtain ⟨q1, q2, q3⟩ := q
  have h1 := heap_lt g1
  have h2 := heap_lt g2
  have hz := hW.size
  have hz2 := q2.size
  have hs := q1.lt
  have k1 : Keep (fun k => k < w2.heap.size) w2 w3 := hW.trans (q2.mono fun k _ hk => by omega)
  have k2 : Keep (fun _ => True) w3 (w3.alloc (.cells #[.slice (some ⟨s, 0, none⟩) n c, .int .u64 (seed : Int)] 32)) := .alloc _ _ _
  have k3 := k1.trans (k2.mono (K' := fun k => k < w2.heap.size) fun k _ hk => trivial)
  exact ⟨k3.heap g1 h1, k3.heap g2 h2, heap_next rfl _, q1.keep k2 trivial, hl, ⟨by omega, by omega, by omega⟩, hb.trans (k3.below (fun k hk => by omega) (by omega))⟩
theorem lts (h : Po w N n seed v0 X s c l W) : N + 1 < W.heap.size ∧ X < W.heap.size ∧ s < W.heap.size := ⟨heap_lt h.res, heap_lt h.box, h.row.lt⟩
theorem below (h : Po w N n seed v0 X s c l W) (hb : Below W.heap.size W B) : Po w N n seed v0 X s c l B := by
  obtain ⟨h1, h2, h3⟩ := h.lts
  have hv := h.arg
  exact ⟨(hb.block N (by omega)).trans hv, (hb.block _ h1).trans h.res, (hb.block _ h2).trans h.box, h.row.keep (K := (· < W.heap.size)) (.of_below hb fun _ h => h) h3, h.len, h.far, h.old.trans (hb.mono (by omega))⟩
theorem drew (h : Po w N n seed v0 X s c l W) : Po w N n seed v0 X s c l W.drew := h.below ⟨rfl, rfl, rfl, Nat.le_refl _, fun _ _ => rfl⟩
/-- one bit is made 1. -/
theorem set (h : Po w N n seed v0 X s c l W) (i : Nat) (hi : i < n) : Po w N n seed v0 X s c (l.set i 1) (W.setCell ⟨s, i, none⟩ (.bool true)) := by
  obtain ⟨h1, h2, h3⟩ := h.lts
  have hv := h.arg
  have hf := h.far
  have hk : Keep (fun k => k ≠ s) W (W.setCell ⟨s, i, none⟩ (.bool true)) := Keep.setCell _ _ _ fun h => h rfl
  exact ⟨hk.heap hv (by omega), hk.heap h.res (by omega), hk.heap h.box (by omega), h.row.set i (by rw [h.len]; exact hi), by rw [List.length_set]; exact h.len, hf, h.old.trans (hk.below (fun k hk => by omega) (by omega))⟩
end Po
theorem Po.cells {w W : World} {N n seed X s c : Nat} {l : List Nat} {v0 : Value} (h : Po w N n seed v0 X s c l W) : W.cell? ⟨N, 0, none⟩ = some v0 ∧ W.cell? ⟨N, 1, none⟩ = some (.int .u64 (seed : Int)) := ⟨by rw [cell_of h.arg]; rfl, by rw [cell_of h.arg]; rfl⟩
/-- the copy, and the key's places in block b. -/
def Pp (w : World) (N n seed : Nat) (v0 : Value) (X s c : Nat) (l : List Nat) (b : Nat) (p : Nat → Nat) (W : World) : Prop := Po w N n seed v0 X s c l W ∧ (∀ j, j < 4 → W.cell? ⟨b, j, none⟩ = some (.int .i64 (p j : Int))) ∧ b ≠ s
namespace Pp
variable {w W B : World} {N n seed X s c b cb : Nat} {l bs : List Nat} {v0 : Value} {p : Nat → Nat}
theorem start (h : Po w N n seed v0 X s c l W) (hq : Q e64 B (.slice (some ⟨b, 0, none⟩) 4 cb) (pl4 p 4)) (hb : W.heap.size ≤ b) (hB : Below W.heap.size W B) : Pp w N n seed v0 X s c l b p B := by
  refine ⟨h.below hB, fun j hj => ?_, by have := h.lts; omega⟩
  obtain ⟨b', o', c', hv, hc⟩ := hq.at_ j (by rw [pl4_len]; exact hj)
  obtain ⟨e1, -, -⟩ := Value.slice.inj hv
  simp only [Option.some.injEq, Addr.mk.injEq, and_true] at e1
  obtain ⟨rfl, rfl⟩ := e1
  rwa [Nat.zero_add, pl4_at p j 4 hj] at hc
theorem step {j : Nat} (hn : 8 * bs.length = n) (hp : p j < n) (hj : j < 4) (h : Pp w N n seed v0 X s c (ub (putTo p bs j)) b p W) :
    W.cell? ⟨X, 0, none⟩ = some (.slice (some ⟨s, 0, none⟩) n c) ∧ W.cell? ⟨b, j, none⟩ = some (.int .i64 (p j : Int)) ∧ (∃ y, W.cell? ⟨s, p j, none⟩ = some (.bool y)) ∧ W.frozen? ⟨s, p j, none⟩ = false ∧ Hid (Pp w N n seed v0 X s c (ub (putTo p bs (j + 1))) b p (W.setCell ⟨s, p j, none⟩ (.bool true)).drew) := by
  obtain ⟨h1, h2, h3⟩ := h
  have hl : (ub (putTo p bs j)).length = n := h1.len
  obtain ⟨c1, f1⟩ := h1.row.at_ (p j) (by omega)
  refine ⟨by rw [cell_of h1.box]; rfl, h2 j hj, ⟨_, c1⟩, f1, ?_, fun i hi => ?_, h3⟩
  · have := (h1.set (p j) hp).drew
    rw [← ub_sb _ _ (by rw [putTo_len]; omega)] at this
    exact this
  · show (W.setCell ⟨s, p j, none⟩ (.bool true)).cell? ⟨b, i, none⟩ = _
    rw [World.cell?_setCell_other _ _ _ _ (by simp)]
    exact h2 i hi
theorem done (h : Pp w N n seed v0 X s c l b p W) :
    (W.cell? ⟨X, 0, none⟩ = some (.slice (some ⟨s, 0, none⟩) n c) ∧ W.cell? ⟨X, 1, none⟩ = some (.int .u64 (seed : Int)) ∧ W.cell? ⟨N + 1, 0, none⟩ = some (.slice none 0 0) ∧ W.cell? ⟨N + 1, 1, none⟩ = some (.int .u64 0) ∧ W.frozen? ⟨N + 1, 0, none⟩ = false ∧ W.frozen? ⟨N + 1, 1, none⟩ = false) ∧
    Hid (∀ B3, (W.setCell ⟨N + 1, 0, none⟩ (.slice (some ⟨s, 0, none⟩) n c)).setCell ⟨N + 1, 1, none⟩ (.int .u64 (seed : Int)) = B3 → (B3.cell? ⟨N + 1, 0, none⟩ = some (.slice (some ⟨s, 0, none⟩) n c) ∧ B3.cell? ⟨N + 1, 1, none⟩ = some (.int .u64 (seed : Int))) ∧ Q eb B3 (.slice (some ⟨s, 0, none⟩) n c) l ∧ N ≤ s ∧ Below N w B3) := by
  obtain ⟨h1, h2, h3⟩ := h
  have hf := h1.far
  refine ⟨⟨by rw [cell_of h1.box]; rfl, by rw [cell_of h1.box]; rfl, by rw [cell_of h1.res]; rfl, by rw [cell_of h1.res]; rfl, frozen_of h1.res 0, frozen_of h1.res 1⟩, fun B3 e => ?_⟩
  have g := put2 (.slice (some ⟨s, 0, none⟩) n c) (.int .u64 (seed : Int)) h1.res
  have hk : Keep (fun k => k ≠ N + 1) W ((W.setCell ⟨N + 1, 0, none⟩ (.slice (some ⟨s, 0, none⟩) n c)).setCell ⟨N + 1, 1, none⟩ (.int .u64 (seed : Int))) := (Keep.setCell _ _ _ fun h => h rfl).trans (Keep.setCell _ _ _ fun h => h rfl)
  rw [e] at g hk
  have hq := (h1.row.keep hk (by show s ≠ N + 1; omega)).q
  rw [h1.len] at hq
  exact ⟨⟨by rw [cell_of g]; rfl, by rw [cell_of g]; rfl⟩, hq, by omega, h1.old.trans (hk.below (fun k hk => by show k ≠ N + 1; omega) (by have := h1.lts; omega))⟩
end Pp
set_option maxHeartbeats 2000000 in
theorem refput_new {w : World} {v0 : Value} {bs : List Nat} (seed x : Nat) (hs : seed < 18446744073709551616) (hx : x < 18446744073709551616) (h : Q eb w v0 (ub bs)) (hp : 0 < bs.length) (hl : bs.length ≤ 4096) (hh : hasB (plN (mixF seed) (8 * bs.length) x) bs = false) :
    Calls Tryd.prog 34 #[dv v0 seed, .int .u64 (x : Int)] w fun e B => ∃ s c, e = .returned (.tuple #[dv (.slice (some ⟨s, 0, none⟩) (8 * bs.length) c) seed, .bool true]) ∧ Q eb B (.slice (some ⟨s, 0, none⟩) (8 * bs.length) c) (ub (putTo (plN (mixF seed) (8 * bs.length) x) bs 4)) ∧ w.heap.size ≤ s ∧ Below w.heap.size w B := by
  obtain ⟨N, hN⟩ : ∃ N, w.heap.size = N := ⟨_, rfl⟩
  obtain ⟨W1, hW1⟩ : ∃ W1, (w.alloc (.cells #[v0, .int .u64 (seed : Int)] 32)).alloc (.cells #[.slice none 0 0, .int .u64 0] 32) = W1 := ⟨_, rfl⟩
  have hr1 : W1.heap[N]? = some (.cells #[v0, .int .u64 (seed : Int)] 32 (0, 0)) := by rw [← hW1]; exact heap_old (arg_box w N hN _ _)
  have hr2 : W1.heap[N + 1]? = some (.cells #[.slice none 0 0, .int .u64 0] 32 (0, 0)) := by rw [← hW1]; exact heap_next (by simp [hN]) _
  have hb1 : Below N w W1 := by rw [← hW1]; exact ((Below.refl _ _).alloc (by omega) _).alloc (by simp; omega) _
  have c0 : W1.cell? ⟨N, 0, none⟩ = some v0 := by rw [cell_of hr1]; rfl
  have c1 : W1.cell? ⟨N, 1, none⟩ = some (.int .u64 (seed : Int)) := by rw [cell_of hr1]; rfl
  have T := refhas_any seed x hs hx (h.below (hN ▸ hb1)) hp hl
  rw [hh] at T
  have T := Lib.hid T
  have PL : Hid (∀ i, plN (mixF seed) (8 * bs.length) x i < 8 * bs.length) := fun i => plN_lt _ _ _ _ (by omega)
  have T9 : Hid (∀ (a : Option Addr) (k : Nat) (W : World), Calls Tryd.prog 40 #[dv (.slice a (8 * bs.length) k) seed, .int .u64 (x : Int)] W fun e B => ∃ b c, e = .returned (.slice (some ⟨b, 0, none⟩) 4 c) ∧ Q e64 B (.slice (some ⟨b, 0, none⟩) 4 c) (pl4 (plN (mixF seed) (8 * bs.length) x) 4) ∧ W.heap.size ≤ b ∧ Below W.heap.size W B) := fun a k W => refplaces_any a (8 * bs.length) k seed (by omega) (by omega) hs x hx W
  clear hh
  generalize plN (mixF seed) (8 * bs.length) x = p at *
  have A : Hid (∀ w2, Below W1.heap.size W1 w2 → ∀ (W : World) (E : Nat) (ty : TypeId), Below w2.heap.size w2 W → W.heap[E]? = some (.cells #[] 4 (0, 0)) → W.ownsRow E 4 1 (.slice (some ⟨E, 0, none⟩) 0 0) 0 [] → w2.heap.size ≤ E → ∃ v' w', (Builtin.append_ #[30, 30] ty #[.slice (some ⟨E, 0, none⟩) 0 0, v0]).run Tryd.prog W = .ok v' w' ∧ Cp N (8 * bs.length) seed v0 (ub bs) W E v' w') := fun w2 hb2 W E ty hW hE hown hle => by
    have h1 := heap_lt hr2
    have hbW : Below N w W := hb1.trans ((hb2.mono (by omega)).trans (hW.mono (by have := hb2.size; omega)))
    have hz := hb2.size
    obtain ⟨v', w', hr, s, c, rfl, hw, hsE, hk, hat⟩ := copy_b (h.below (hN ▸ hbW)) (by rw [ub_len]; omega) (by rw [ub_len]; omega) hE hown ty
    rw [ub_len] at hr
    have g1 : w'.heap[N]? = _ := hk.heap ((hW.block N (by omega)).trans ((hb2.block N (by omega)).trans hr1)) (by show N ≠ E; omega)
    exact ⟨_, w', hr, s, c, rfl, ⟨by rw [cell_of g1]; rfl, by rw [cell_of g1]; rfl, fun o => ⟨by rw [cell_of (heap_old g1)]; rfl, by rw [cell_of (heap_old g1)]; rfl⟩, fun X hX a b => ⟨by rw [cell_of (heap_set_other (heap_set_other g1 (Ne.symm hX) _ _) (Ne.symm hX) _ _)]; rfl, by rw [cell_of (heap_set_other (heap_set_other g1 (Ne.symm hX) _ _) (Ne.symm hX) _ _)]; rfl⟩⟩, hw, hk, hat⟩
  have C : Hid (∀ W, Below W1.heap.size W1 W → (W.cell? ⟨N, 0, none⟩ = some v0 ∧ W.cell? ⟨N, 1, none⟩ = some (.int .u64 (seed : Int))) ∧ (∀ o, (W.alloc o).cell? ⟨N, 0, none⟩ = some v0 ∧ (W.alloc o).cell? ⟨N, 1, none⟩ = some (.int .u64 (seed : Int))) ∧ (∀ o o', ((W.alloc o).alloc o').cell? ⟨N, 0, none⟩ = some v0 ∧ ((W.alloc o).alloc o').cell? ⟨N, 1, none⟩ = some (.int .u64 (seed : Int)))) := fun W hW => by
    have h1 := heap_lt hr2
    have g1 := (hW.block N (by omega)).trans hr1
    exact ⟨⟨by rw [cell_of g1]; rfl, by rw [cell_of g1]; rfl⟩, fun o => ⟨by rw [cell_of (heap_old g1)]; rfl, by rw [cell_of (heap_old g1)]; rfl⟩, fun o o' => ⟨by rw [cell_of (heap_old (heap_old g1))]; rfl, by rw [cell_of (heap_old (heap_old g1))]; rfl⟩⟩
  obtain ⟨a0, k0, hv0, -⟩ := h.slice
  rw [ub_len] at hv0
  have STEP : Hid (∀ (X s c b j : Nat) (W : World), j < 4 → Pp w N (8 * bs.length) seed v0 X s c (ub (putTo p bs j)) b p W → p j < 8 * bs.length ∧ _) := fun X s c b j W hj hP => ⟨PL.out j, Pp.step rfl (PL.out j) hj hP⟩
  generalize hn : 8 * bs.length = n at *
  subst hv0
  have hl : n ≤ 32768 := by omega
  rw [hN]
  go_enter Tryd.func34, Tryd.ntmps34
  go_wp2_with fail
  clear hW1
  refine T.out.mono ?_
  rintro e w2 ⟨rfl, hb2⟩
  have A := Lib.hid (A.out w2 hb2)
  obtain ⟨⟨d0, d1⟩, d2, d3⟩ := C.out w2 hb2
  have d20 := fun o => (d2 o).1
  have d21 := fun o => (d2 o).2
  have d30 := fun o o' => (d3 o o').1
  have d31 := fun o o' => (d3 o o').2
  have P1 : Hid (∀ q, Below w2.heap.size w2 (w2.drewN q)) := fun q => ⟨rfl, rfl, rfl, Nat.le_refl _, fun _ _ => rfl⟩
  have P2 : Hid (∀ q o, Below w2.heap.size w2 ((w2.drewN q).alloc o)) := fun q o => (P1.out q).alloc (Nat.le_refl _) _
  have P3 : Hid (∀ q o o', Below w2.heap.size w2 (((w2.drewN q).alloc o).alloc o')) := fun q o o' => (P2.out q o).alloc (P2.out q o).size _
  clear d2 d3 c0 c1
  have G1 : Hid (∀ w2, Below W1.heap.size W1 w2 → w2.heap[N]? = _) := fun w2 hW => (hW.block N (by have := heap_lt hr2; omega)).trans hr1
  have G2 : Hid (∀ w2, Below W1.heap.size W1 w2 → w2.heap[N + 1]? = _) := fun w2 hW => (hW.block _ (heap_lt hr2)).trans hr2
  have G3 : Hid (∀ w2, Below W1.heap.size W1 w2 → Below N w w2) := fun w2 hW => hb1.trans (hW.mono (by have := heap_lt hr2; omega))
  have KP2 : Hid (∀ q o, Keep (fun k => k < w2.heap.size) w2 ((w2.drewN q).alloc o)) := fun q o => (Keep.drewN _ _ _).trans (.alloc _ _ _)
  have KP3 : Hid (∀ q o o', Keep (fun k => k < w2.heap.size) w2 (((w2.drewN q).alloc o).alloc o')) := fun q o o' => ((Keep.drewN _ _ _).trans (.alloc _ _ _)).trans (.alloc _ _ _)
  have HC := Lib.hid (And.intro h (And.intro hr1 (And.intro hr2 hb1)))
  have HB2 := Lib.hid hb2
  clear h hr1 hr2 hb1 hb2 C
  go_wp2_with fail
  have X1 : Hid (∀ (W : World) (X : Nat), X = W.heap.size → (W.alloc (.cells #[.slice none 0 0, .int .u64 0] 32)).heap[X]? = some (.cells #[.slice none 0 0, .int .u64 0] 32 (0, 0))) := fun W X h => heap_next h _
  have hN2 : N < w2.heap.size := by have := HB2.out.size; have := heap_lt HC.out.2.1; omega
  go_region_held3 (fun W => W.cell? ⟨N, 0, none⟩ = some (.slice a0 n k0) ∧ W.cell? ⟨N, 1, none⟩ = some (.int .u64 (seed : Int))) (first | exact ⟨d0, d1⟩ | exact ⟨d20 _, d21 _⟩ | exact ⟨d30 _ _, d31 _ _⟩ | exact ⟨e0, e1⟩ | exact e2 _ | exact e3 _ (by omega) _ _ | assumption) (first
    | (refine step_ex _ (by rfl) _ _ 30 (by rfl) _ _ (by rfl) (by rfl) (A.out _ _ _ (P2.out 1 _) (heap_next rfl _) (empty_own _ 4 eb) (by simp)) ?_; rintro v3 w3 ⟨s3, c3, rfl, ⟨e0, e1, e2, e3⟩, q3⟩)
    | (refine step_ex _ (by rfl) _ _ 30 (by rfl) _ _ (by rfl) (by rfl) (A.out _ _ _ (P3.out 1 _ _) (heap_old (heap_next rfl _)) ((empty_own _ 4 eb).alloc _) (by simp)) ?_; rintro v3 w3 h3; obtain ⟨x0, x1, x2, x3, x4⟩ := h3.x (X := w2.heap.size + 1) (X1.out _ _ (by first | (simp; done) | (simp; rfl))) (by first | (simp; done) | (simp; rfl)); have x4 := Lib.hid x4; obtain ⟨s3, c3, rfl, ⟨e0, e1, e2, e3⟩, q3⟩ := h3)
    | (refine step_ex _ (by rfl) _ _ 30 (by rfl) _ _ (by rfl) (by rfl) (A.out _ (w2.heap.size + 1) _ (P3.out 1 _ _) (heap_next (by simp) _) (empty_at (by simp)) (by simp)) ?_; rintro v3 w3 h3; obtain ⟨x0, x1, x2, x3, x4⟩ := h3.x (X := w2.heap.size) (heap_old (X1.out _ _ rfl)) (by simp); have x4 := Lib.hid x4; obtain ⟨s3, c3, rfl, ⟨e0, e1, e2, e3⟩, q3⟩ := h3))
  all_goals (
    first
    | (have HP : Hid (Po w N n seed (.slice a0 n k0) w3.heap.size s3 c3 (ub bs) _) := Po.of_alloc (G1.out w2 HB2.out) (G2.out w2 HB2.out) (G3.out w2 HB2.out) (KP2.out 1 _) q3.out (Nat.le_refl _) (by rw [ub_len, hn])
       clear q3 e0 e1 e2 e3
       generalize w3.alloc (.cells #[.slice (some ⟨s3, 0, none⟩) n c3, .int .u64 (seed : Int)] 32) = W4 at HP ⊢
       generalize w3.heap.size = X at HP ⊢)
    | (have HP : Hid (Po w N n seed (.slice a0 n k0) w2.heap.size s3 c3 (ub bs) _) := Po.of_set (G1.out w2 HB2.out) (G2.out w2 HB2.out) (G3.out w2 HB2.out) (KP3.out 1 _ _) q3.out (by omega) (Nat.le_refl _) (by omega) (by first | (simp; done) | (simp; rfl) | (simp; omega)) x4.out (by rw [ub_len, hn])
       clear q3 e0 e1 e2 e3 x0 x1 x2 x3 x4
       generalize (w3.setCell ⟨w2.heap.size, 0, none⟩ (.slice (some ⟨s3, 0, none⟩) n c3)).setCell ⟨w2.heap.size, 1, none⟩ (.int .u64 (seed : Int)) = W4 at HP ⊢
       generalize w2.heap.size = X at HP ⊢)
    | (have HP : Hid (Po w N n seed (.slice a0 n k0) (w2.heap.size + 1) s3 c3 (ub bs) _) := Po.of_set (G1.out w2 HB2.out) (G2.out w2 HB2.out) (G3.out w2 HB2.out) (KP3.out 1 _ _) q3.out (Nat.le_refl _) (by omega) (by omega) (by first | (simp; done) | (simp; rfl) | (simp; omega)) x4.out (by rw [ub_len, hn])
       clear q3 e0 e1 e2 e3 x0 x1 x2 x3 x4
       generalize (w3.setCell ⟨w2.heap.size + 1, 0, none⟩ (.slice (some ⟨s3, 0, none⟩) n c3)).setCell ⟨w2.heap.size + 1, 1, none⟩ (.int .u64 (seed : Int)) = W4 at HP ⊢
       generalize w2.heap.size + 1 = X at HP ⊢)
    clear d0 d1 d20 d21 d30 d31 P1 P2 P3 A HB2 G1 G2 G3 KP2 KP3 X1 hN2 HC T
    obtain ⟨d0, d1⟩ := HP.out.cells
    go_wp2_with fail
    refine (T9.out _ _ _).mono ?_
    rintro e w5 ⟨b, cb, rfl, hq, hbb, hb5⟩
    have H5 : Hid (Pp w N n seed (.slice a0 n k0) X s3 c3 (ub (putTo p bs 0)) b p w5) := Pp.start HP.out hq hbb hb5
    clear HP d0 d1 hq hbb hb5 T9
    go_wp2_with fail
    go_loopw [8] (fun i wr => ∃ j : Nat, j ≤ 4 ∧ i = .int .i64 j ∧ Hid (Pp w N n seed (.slice a0 n k0) X s3 c3 (ub (putTo p bs j)) b p wr)) (fun i _ => 4 - (intOf i).toNat)
    case atStart => exact ⟨0, by omega, rfl, H5⟩
    case round =>
      obtain ⟨j, hj, rfl, hH⟩ := hrel
      clear H5
      by_cases hlt : j < 4
      · obtain ⟨hp, d0, d1, ⟨y, d2⟩, f2, hNx⟩ := STEP.out X s3 c3 b j wr hlt hH.out
        have h1 : (0 : Int) ≤ (j : Int) := by omega
        have h2 : (j : Int) < 4 := by omega
        have h3 : (0 : Int) ≤ (p j : Int) := by omega
        have h4 : (p j : Int) < (n : Int) := by omega
        clear STEP hH PL
        generalize p j = q at *
        go_wp2_with fail
        go_region
        all_goals (
          go_wp2
          go_roundw
          case rel => exact ⟨j + 1, by omega, by simp, hNx⟩
          case measure => simp [intOf]; omega)
      · obtain rfl : j = 4 := by omega
        obtain ⟨⟨x0, x1, r0, r1, f0, f1⟩, hD⟩ := hH.out.done
        clear STEP PL
        go_wp2
        obtain ⟨⟨b0, b1⟩, hq, hs, hB⟩ := hD.out _ rfl
        generalize (wr.setCell ⟨N + 1, 0, none⟩ (.slice (some ⟨s3, 0, none⟩) n c3)).setCell ⟨N + 1, 1, none⟩ (.int .u64 (seed : Int)) = B3 at *
        refine bodyPost_ret (v := .tuple #[dv (.slice (some ⟨s3, 0, none⟩) n c3) seed, .bool true]) ?_ rfl ⟨s3, c3, rfl, hq, hs, hB⟩
        simp [results, Tryd.results34, go_sem, b0, b1])
theorem refput_any {w : World} {v0 : Value} {bs : List Nat} (K : Nat → Prop) (seed x : Nat) (hs : seed < 18446744073709551616) (hx : x < 18446744073709551616) (h : Q eb w v0 (ub bs)) (hp : 0 < bs.length) (hl : bs.length ≤ 4096) (h1 : ∀ b, v0.ownBlock = some b → K b) (h2 : ∀ b, w.heap.size ≤ b → K b) :
    Calls Tryd.prog 34 #[dv v0 seed, .int .u64 (x : Int)] w fun e B => ∃ a c, e = .returned (.tuple #[dv (.slice a (8 * bs.length) c) seed, .bool (!hasB (plN (mixF seed) (8 * bs.length) x) bs)]) ∧ Q eb B (.slice a (8 * bs.length) c) (ub (putB (plN (mixF seed) (8 * bs.length) x) bs)) ∧ (∀ b, (Value.slice a (8 * bs.length) c).ownBlock = some b → K b) ∧ Below w.heap.size w B := by
  unfold putB
  cases hh : hasB (plN (mixF seed) (8 * bs.length) x) bs
  · exact (refput_new seed x hs hx h hp hl hh).mono fun e B ⟨s, c, he, hq, hb, hB⟩ => ⟨_, _, he, by rw [if_neg (by decide)]; exact hq, fun b hb' => by simp [Value.ownBlock] at hb'; exact h2 b (by omega), hB⟩
  · obtain ⟨a, c, hv, -⟩ := h.slice
    rw [ub_len] at hv
    subst hv
    exact (refput_had seed x hs hx h hp hl hh).mono fun e B ⟨he, hB⟩ => ⟨_, _, he, by rw [if_pos rfl]; exact h.below hB, h1, hB⟩
end Go.Proofs.YthjbkabkoolfdaaDoor.dr
