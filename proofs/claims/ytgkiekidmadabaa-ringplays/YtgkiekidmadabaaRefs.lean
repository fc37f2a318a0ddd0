/-
  The document's queue (cortadoref07) by contracts: New, Send, Take, At, Same; and the law's helper stands.
-/
import Derived.Test.YtgkiekidmadabaaHelps
import Derived.Laws.OwnMore
import Derived.RegionTactic
import Derived.Deep.RegionHeld3
namespace Go.Proofs.Ytgkiekidmadabaa
open Go.RowKit Go.Shelf
/-- a queue as a value: its slice and its room. -/
abbrev qv (v : Value) (room : Nat) : Value := .agg #[v, .int .i64 (room : Int)]
/-- the slice v of a queue reads as l: nil, or at an address. -/
def Q (w : World) (v : Value) (l : List Int) : Prop := (v = .slice none 0 0 ∧ l = []) ∨ ∃ b o cap, v = .slice (some ⟨b, o, none⟩) l.length cap ∧ l.length ≤ cap ∧ ∀ i (h : i < l.length), w.cell? ⟨b, o + i, none⟩ = some (.int .i64 l[i])
namespace Q
variable {w w' : World} {v : Value} {l : List Int}
theorem nil (w : World) : Q w (.slice none 0 0) [] := .inl ⟨rfl, rfl⟩
theorem row (h : Q w v l) : Row w v l := by
  rcases h with ⟨rfl, rfl⟩ | ⟨b, o, cap, rfl, hc, hi⟩
  · exact Row.nil w
  · exact ⟨_, cap, rfl, hc, fun _ => ⟨b, o, rfl, hi⟩⟩
theorem keep {K : Nat → Prop} (h : Q w v l) (hk : Keep K w w') (hK : ∀ k, v.ownBlock = some k → K k) : Q w' v l := by
  rcases h with h | ⟨b, o, cap, rfl, hc, hi⟩
  · exact .inl h
  · exact .inr ⟨b, o, cap, rfl, hc, fun i h => (hk.cell (p := ⟨b, o + i, none⟩) (World.block_lt_of_cell? w ⟨b, o + i, none⟩ (hi i h)) (hK b rfl)).trans (hi i h)⟩
theorem below (h : Q w v l) (hb : Below w.heap.size w w') : Q w' v l := by
  rcases h with h | ⟨b, o, cap, rfl, hc, hi⟩
  · exact .inl h
  · exact .inr ⟨b, o, cap, rfl, hc, fun i h => (hb.cell (p := ⟨b, o + i, none⟩) (World.block_lt_of_cell? w ⟨b, o + i, none⟩ (hi i h))).trans (hi i h)⟩
theorem slice (h : Q w v l) : ∃ a cap, v = .slice a l.length cap ∧ l.length ≤ cap := by
  rcases h with ⟨rfl, rfl⟩ | ⟨b, o, cap, rfl, hc, _⟩
  · exact ⟨_, _, rfl, Nat.le_refl _⟩
  · exact ⟨_, _, rfl, hc⟩
theorem of_own {base : Nat} (h : w.ownsRow base 3 1 v l.length (l.map (Value.int .i64))) : Q w v l := by
  rcases h.2 with ⟨rfl, h0⟩ | ⟨g, cap, cur, rfl, _, _, hc, _⟩
  · exact .inl ⟨rfl, List.eq_nil_of_length_eq_zero h0⟩
  · refine .inr ⟨g, 0, cap, rfl, hc, fun i hi => ?_⟩
    have := h.cells (g := g) rfl i (.int .i64 l[i]) (by simp [hi])
    rwa [Addr.add_lit] at this
end Q
theorem app_q {W : World} {base : Nat} {v0 : Value} {i : Nat} {ys zs : List Int} {u : Value} (hown : W.ownsRow base 3 1 v0 i (ys.map (Value.int .i64))) (hu : Q W u zs) (hi : i + zs.length ≤ 1000000) (hb : base ≤ W.heap.size) (ty : TypeId) :
    ∃ v' w', (Builtin.append_ #[26, 26] ty #[v0, u]).run Try.prog W = .ok v' w' ∧ w'.ownsRow base 3 1 v' (i + zs.length) ((ys ++ zs).map (Value.int .i64)) ∧ W.grownBy w' v0.ownBlock := by
  obtain ⟨i0, hi0, hz0, hz1, hz2⟩ := info_parts info_el
  have hmax : maxLen = 9223372036854775807 := by decide
  rcases hu with ⟨rfl, rfl⟩ | ⟨b, o, cap, rfl, hc, hcell⟩
  · exact ⟨v0, W, run_append_owned_none W base 26 ty 3 i0 1 Try.underlying26 hi0 v0 i _ hown, by simpa using hown, World.grownBy.refl _ _⟩
  · obtain ⟨v', w1, hr, hown', hgrow, _⟩ := run_append_own (P := Try.prog) W base 26 ty 3 i0 (.int .i64 0) 1 8 Try.underlying26 hi0 hz0 hz1 hz2 rfl (by decide) v0 i _ hown ⟨b, o, none⟩ zs.length cap (zs.map (Value.int .i64)) (by simp) (fun j u hu => by
      rw [List.getElem?_map, Option.map_eq_some_iff] at hu
      obtain ⟨x, hx, rfl⟩ := hu
      obtain ⟨hj, rfl⟩ := List.getElem?_eq_some_iff.1 hx
      rw [show (⟨b, o, none⟩ : Addr).add j = ⟨b, o + j, none⟩ by simp [Addr.add]]
      exact hcell j hj) (fun u hu => by obtain ⟨x, _, rfl⟩ := List.mem_map.1 hu; rfl) (by omega) (by omega) hb
    exact ⟨v', w1, hr, by rw [List.map_append]; exact hown', hgrow⟩
theorem refnew_any (k : Int) (w : World) : Calls Try.prog 8 #[.int .i64 k] w fun e B => e = .returned (qv (.slice none 0 0) (roomOf k)) ∧ Below w.heap.size w B := by
  go_enter Try.func8, Try.ntmps8
  go_wp2
  · have e : ((roomOf k : Nat) : Int) = 65536 := by unfold roomOf; omega
    simp only [qv, e]
    exact bodyPost_ret (v := .agg #[.slice none 0 0, .int .i64 65536]) (by simp [results, Try.results8, go_sem]) rfl ⟨rfl, (Below.refl _ _).alloc (Nat.le_refl _) _⟩
  · have e : ((roomOf k : Nat) : Int) = k := by unfold roomOf; omega
    simp only [qv, e]
    exact bodyPost_ret (v := .agg #[.slice none 0 0, .int .i64 k]) (by simp [results, Try.results8, go_sem]) rfl ⟨rfl, (Below.refl _ _).alloc (Nat.le_refl _) _⟩
  · have e : ((roomOf k : Nat) : Int) = 0 := by unfold roomOf; omega
    simp only [qv, e]
    exact bodyPost_ret (v := .agg #[.slice none 0 0, .int .i64 0]) (by simp [results, Try.results8, go_sem]) rfl ⟨rfl, (Below.refl _ _).alloc (Nat.le_refl _) _⟩
theorem qset (w : World) (g : Nat) {t : TypeId} {x y : Value} (h : w.heap[g]? = some (.cells #[x, y] t (0, 0))) (a b : Value) : ((w.setCell ⟨g, 0, none⟩ a).setCell ⟨g, 1, none⟩ b).heap[g]? = some (.cells #[a, b] t (0, 0)) := by
  rw [heap_set (heap_set h 0 a) 1 b]
  rfl
theorem refsend_full (a : Option Addr) (n cap room : Nat) (x : Int) (h : room ≤ n) (w : World) : Calls Try.prog 9 #[qv (.slice a n cap) room, .int .i64 x] w fun e B => e = .returned (.tuple #[qv (.slice a n cap) room, .bool false]) ∧ Below w.heap.size w B := by
  have hi : (room : Int) ≤ (n : Int) := by omega
  go_enter Try.func9, Try.ntmps9
  go_wp2
  exact bodyPost_ret (v := .tuple #[qv (.slice a n cap) room, .bool false]) (by simp [results, Try.results9, go_sem]) rfl ⟨rfl, Keep.below (K := fun _ => True) ((Keep.alloc _ _ _).trans (Keep.alloc _ _ _)) (fun _ _ => trivial) (Nat.le_refl _)⟩
theorem step_ex {P : Program} (w : World) {ops : Array Oper} {o : Oper} {a : Act} {K : Act → World → Prop} {Q : Exit → Act → World → Prop} {E : Prop} (hgd : o.guard = none) (s x : Operand) (t : TypeId)
    (ho : o.op = .call { callee := .builtin .append, args := #[s, x], argTypes := #[t, t] }) (v u : Value) (hs : a.eval s = v) (hx : a.eval x = u) {R : Value → World → Prop}
    (hrun : ∃ v' w', (Builtin.append_ #[t, t] o.type #[v, u]).run P w = .ok v' w' ∧ R v' w') (h : ∀ v' w', R v' w' → K (a.put o.dst v') w') :
    if Region.wanted o (yielded ops a.tmps) = true then Oper.wp P o a w K Q else E := by
  have hw : Region.wanted o (yielded ops a.tmps) = true := by simp [Region.wanted, hgd]
  rw [if_pos hw]
  obtain ⟨v', w', hr, hR⟩ := hrun
  unfold Oper.wp execOp
  simp only [ho, resolve, invoke, builtin, Sem.run_bind, Sem.run_pure, Result.andThen_ok, List.map_toArray, List.map_cons, List.map_nil, hs, hx, hr]
  exact h v' w' hR
/-- what stands in Send of the document's queue: its box, the result's, and all that lay. -/
structure Ba (w : World) (N : Nat) (v y z : Value) (room : Nat) (W : World) : Prop where
  box : W.heap[N]? = some (.cells #[v, .int .i64 (room : Int)] 28 (0, 0))
  out : W.heap[N + 1]? = some (.cells #[y, z] 28 (0, 0))
  old : Below N w W
namespace Ba
variable {w W W' : World} {N : Nat} {v y z : Value} {room : Nat}
theorem keep {K : Nat → Prop} (h : Ba w N v y z room W) (hk : Keep K W W') (hK : ∀ k, k < N + 2 → K k) : Ba w N v y z room W' :=
  ⟨hk.heap h.box (hK _ (by omega)), hk.heap h.out (hK _ (by omega)), h.old.trans (hk.below (fun k hk => hK k (by omega)) (by have := heap_lt h.box; omega))⟩
theorem alloc (h : Ba w N v y z room W) (o : Obj) : Ba w N v y z room (W.alloc o) := h.keep (Keep.alloc (fun _ => True) _ _) fun _ _ => trivial
theorem drew (h : Ba w N v y z room W) : Ba w N v y z room W.drew := h.keep (Keep.drew (fun _ => True) _) fun _ _ => trivial
theorem size (h : Ba w N v y z room W) : N + 2 ≤ W.heap.size := heap_lt h.out
theorem b0 (h : Ba w N v y z room W) : W.cell? ⟨N, 0, none⟩ = some v := by rw [cell_of h.box]; rfl
theorem b1 (h : Ba w N v y z room W) : W.cell? ⟨N, 1, none⟩ = some (.int .i64 (room : Int)) := by rw [cell_of h.box]; rfl
theorem o0 (h : Ba w N v y z room W) : W.cell? ⟨N + 1, 0, none⟩ = some y := by rw [cell_of h.out]; rfl
theorem o1 (h : Ba w N v y z room W) : W.cell? ⟨N + 1, 1, none⟩ = some z := by rw [cell_of h.out]; rfl
theorem fr (h : Ba w N v y z room W) (i : Nat) : W.frozen? ⟨N + 1, i, none⟩ = false := frozen_of h.out i
theorem set (h : Ba w N v y z room W) (y' z' : Value) : Ba w N v y' z' room ((W.setCell ⟨N + 1, 0, none⟩ y').setCell ⟨N + 1, 1, none⟩ z') :=
  ⟨heap_set_other (heap_set_other h.box (by omega) _ _) (by omega) _ _, qset W (N + 1) h.out y' z', h.old.trans (((Keep.setCell (K := (· < N)) W ⟨N + 1, 0, none⟩ y' (by simp)).trans (Keep.setCell (K := (· < N)) _ ⟨N + 1, 1, none⟩ z' (by simp))).below (fun _ h => h) (by have := heap_lt h.box; omega))⟩
theorem new (w : World) (v y z : Value) (room : Nat) : Ba w w.heap.size v y z room ((w.alloc (.cells #[v, .int .i64 (room : Int)] 28)).alloc (.cells #[y, z] 28)) :=
  ⟨heap_old (World.alloc_heap_new _ _), heap_next (by simp) _, Keep.below (K := fun _ => True) ((Keep.alloc _ _ _).trans (Keep.alloc _ _ _)) (fun _ _ => trivial) (Nat.le_refl _)⟩
end Ba
theorem own_empty {W : World} {E base : Nat} (h : W.heap[E]? = some (.cells #[] 3 (0, 0))) (hb : base ≤ E) : W.ownsRow base 3 1 (.slice (some ⟨E, 0, none⟩) 0 0) 0 (([] : List Int).map (Value.int .i64)) :=
  ⟨rfl, .inr ⟨E, 0, #[], rfl, hb, h, Nat.le_refl _, by decide, rfl, rfl⟩⟩
theorem q_one {W : World} {X : Nat} {x : Int} (h : W.heap[X]? = some (.cells #[.int .i64 x] 3 (0, 0))) : Q W (.slice (some ⟨X, 0, none⟩) 1 1) [x] :=
  .inr ⟨X, 0, 1, rfl, Nat.le_refl _, fun i hi => by
    obtain rfl : i = 0 := by simpa using hi
    rw [cell_of h]; rfl⟩
set_option maxHeartbeats 2000000 in
theorem refsend_room (v : Value) (l : List Int) (room : Nat) (x : Int) (h : l.length < room) (hr : room ≤ 65536) (w : World) (hq : Q w v l) : Calls Try.prog 9 #[qv v room, .int .i64 x] w fun e B => ∃ v', e = .returned (.tuple #[qv v' room, .bool true]) ∧ Q B v' (l ++ [x]) ∧ (∀ k, v'.ownBlock = some k → w.heap.size ≤ k ∧ k < B.heap.size) ∧ Below w.heap.size w B := by
  obtain ⟨a, cap, hv, _⟩ := hq.slice
  obtain ⟨N, hN⟩ : ∃ N, w.heap.size = N := ⟨_, rfl⟩
  have hB0 : Ba w N v (.slice none 0 0) (.int .i64 0) room ((w.alloc (.cells #[v, .int .i64 (room : Int)] 28)).alloc (.cells #[.slice none 0 0, .int .i64 0] 28)) := hN ▸ Ba.new w v _ _ room
  have hs0 : ((w.alloc (.cells #[v, .int .i64 (room : Int)] 28)).alloc (.cells #[.slice none 0 0, .int .i64 0] 28)).heap.size = N + 2 := by simp [hN]
  have A1 : Hid (∀ W E ty, Ba w N v (.slice none 0 0) (.int .i64 0) room W → W.heap[E]? = some (.cells #[] 3 (0, 0)) → N + 2 ≤ E → ∃ v' w', (Builtin.append_ #[26, 26] ty #[.slice (some ⟨E, 0, none⟩) 0 0, v]).run Try.prog W = .ok v' w' ∧ (Ba w N v (.slice none 0 0) (.int .i64 0) room w' ∧ w'.ownsRow (N + 2) 3 1 v' l.length (l.map (Value.int .i64)) ∧ Keep (fun k => k ≠ E) W w')) := fun W E ty hB hE hNE => by
    have hb := hB.size
    obtain ⟨v', w', hr, ho, hg⟩ := app_q (own_empty hE hNE) (hq.below (hN ▸ hB.old)) (by omega) hb ty
    have hk : Keep (fun k => k ≠ E) W w' := Keep.grown hg (fun k hk h => by simp [Value.ownBlock] at hk; exact h hk.symm)
    exact ⟨v', w', hr, hB.keep hk (fun k hk => by omega), by simpa using ho, hk⟩
  have A2 : Hid (∀ W v1 X ty, Ba w N v (.slice none 0 0) (.int .i64 0) room W → W.ownsRow (N + 2) 3 1 v1 l.length (l.map (Value.int .i64)) → W.heap[X]? = some (.cells #[.int .i64 x] 3 (0, 0)) → ∃ v' w', (Builtin.append_ #[26, 26] ty #[v1, .slice (some ⟨X, 0, none⟩) 1 1]).run Try.prog W = .ok v' w' ∧ ((∃ a2 cap2, v' = .slice a2 (l ++ [x]).length cap2) ∧ Ba w N v (.slice none 0 0) (.int .i64 0) room w' ∧ w'.ownsRow (N + 2) 3 1 v' (l ++ [x]).length ((l ++ [x]).map (Value.int .i64)))) := fun W v1 X ty hB hO hX => by
    have hb := hB.size
    obtain ⟨v', w', hr, ho, hg⟩ := app_q hO (q_one hX) (by simp; omega) hb ty
    have hk : Keep (fun k => k < N + 2) W w' := Keep.grown hg (fun k hk h => by have := (World.ownsRow.lt hO k hk).1; omega)
    have ho' : w'.ownsRow (N + 2) 3 1 v' (l ++ [x]).length ((l ++ [x]).map (Value.int .i64)) := by simpa using ho
    exact ⟨v', w', hr, own_slice ho', hB.keep hk (fun k hk => hk), ho'⟩
  have hi : (l.length : Int) < (room : Int) := by omega
  have X1 := Lib.hid hB0
  rw [hN]
  clear hB0 hq h
  subst hv
  go_enter Try.func9, Try.ntmps9
  go_wp2_with fail
  generalize (w.alloc (.cells #[.slice a l.length cap, .int .i64 (room : Int)] 28)).alloc (.cells #[.slice none 0 0, .int .i64 0] 28) = W0 at *
  have K0 : Hid (W0.drew.cell? ⟨N, 0, none⟩ = some (.slice a l.length cap) ∧ W0.drew.cell? ⟨N, 1, none⟩ = some (.int .i64 (room : Int))) := ⟨X1.out.drew.b0, X1.out.drew.b1⟩
  go_region_held3 (fun W => W.cell? ⟨N, 0, none⟩ = some (.slice a l.length cap) ∧ W.cell? ⟨N, 1, none⟩ = some (.int .i64 (room : Int)))
    (first | exact K0.out | exact ⟨cell_past K0.out.1, cell_past K0.out.2⟩ | exact ⟨cell_past (cell_past K0.out.1), cell_past (cell_past K0.out.2)⟩ | exact ⟨hB2.b0, hB2.b1⟩ | exact ⟨(hB2.set _ _).b0, (hB2.set _ _).b1⟩ | exact ⟨hB1.b0, hB1.b1⟩ | exact ⟨(hB1.alloc _).b0, (hB1.alloc _).b1⟩)
    (first
    | (refine step_ex _ (by rfl) _ _ 26 (by rfl) _ _ (by rfl) (by rfl) (A2.out _ _ _ _ (by first | exact hB1 | exact hB1.alloc _) (by first | exact hO1 | exact hO1.alloc _) (by first | exact heap_next rfl _ | exact hk1.heap (heap_next (by simp [hs0]) _) (by omega) | exact hk1.heap (heap_old (heap_next (by simp [hs0]) _)) (by omega))) ?_; rintro v2 w2 ⟨⟨a2, cap2, rfl⟩, hB2, hO2⟩; have d0 := hB2.o0; have d1 := hB2.o1; have f0 := hB2.fr 0; have f1 := hB2.fr 1)
    | (refine step_ex _ (by rfl) _ _ 26 (by rfl) _ _ (by rfl) (by rfl) (A1.out _ _ _ (by first | exact (X1.out.alloc _).drew | exact ((X1.out.alloc _).alloc _).drew) (by first | exact heap_next (by simp [hs0]) _ | exact heap_old (heap_next (by simp [hs0]) _)) (by omega)) ?_; rintro v1 w1 ⟨hB1, hO1, hk1⟩))
  all_goals (
    have hQ : Q w2 (.slice a2 (l.length + 1) cap2) (l ++ [x]) := by have := Q.of_own hO2; rwa [List.length_append] at this
    have hlt : ∀ k, (Value.slice a2 (l.length + 1) cap2).ownBlock = some k → N + 2 ≤ k ∧ k < w2.heap.size := by have := World.ownsRow.lt hO2; rw [List.length_append] at this; exact fun k hk => this k hk
    have hB3 := hB2.set (.slice a2 (l.length + 1) cap2) (.int .i64 (room : Int))
    have e0 := hB3.o0
    have e1 := hB3.o1
    have Y := Lib.hid (And.intro hQ (And.intro hlt hB3.old))
    clear hQ hlt hB3 hO1 hO2 hB1 hB2 hk1
    go_wp2
    exact bodyPost_ret (v := .tuple #[qv (.slice a2 (l.length + 1) cap2) room, .bool true]) (by simp [results, Try.results9, go_sem, e0, e1]) rfl
      ⟨_, rfl, Y.out.1.keep ((Keep.setCell (K := fun k => k ≠ N + 1) w2 ⟨N + 1, 0, none⟩ _ (fun h => h rfl)).trans (Keep.setCell (K := fun k => k ≠ N + 1) _ ⟨N + 1, 1, none⟩ _ (fun h => h rfl))) (fun k hk => by have := Y.out.2.1 k hk; omega), fun k hk => by have := Y.out.2.1 k hk; rw [World.size_setCell, World.size_setCell]; omega, Y.out.2.2⟩)
theorem refsend_any (v : Value) (l : List Int) (room : Nat) (x : Int) (hr : room ≤ 65536) (w : World) (hq : Q w v l) : Calls Try.prog 9 #[qv v room, .int .i64 x] w fun e B => ∃ v', e = .returned (.tuple #[qv v' room, .bool (decide (l.length < room))]) ∧ Q B v' (if l.length < room then l ++ [x] else l) ∧ (∀ k, v'.ownBlock = some k → v.ownBlock = some k ∨ (w.heap.size ≤ k ∧ k < B.heap.size)) ∧ Below w.heap.size w B := by
  by_cases h : l.length < room
  · rw [decide_eq_true h, if_pos h]
    exact (refsend_room v l room x h hr w hq).mono fun e B ⟨v', he, hQ, hk, hb⟩ => ⟨v', he, hQ, fun k h => .inr (hk k h), hb⟩
  · rw [decide_eq_false h, if_neg h]
    obtain ⟨a, cap, rfl, _⟩ := hq.slice
    exact (refsend_full a l.length cap room x (by omega) w).mono fun e B ⟨he, hb⟩ => ⟨_, he, hq.below hb, fun k h => .inl h, hb⟩
end Go.Proofs.Ytgkiekidmadabaa
