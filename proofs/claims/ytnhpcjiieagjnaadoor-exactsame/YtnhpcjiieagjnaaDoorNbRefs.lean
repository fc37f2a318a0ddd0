/-
  Slices that are read and appended to ('Q'); (*Row).Bytes; the document's row (cortadoref10) by contracts: Get, Add, Halve, Bytes.
-/
import Derived.Test.YtnhpcjiieagjnaaDoorNbTurn
import Derived.Lib.Strings
import Derived.Laws.IdiomStrings
import Derived.Laws.BytesArg
namespace Go.Proofs.YtnhpcjiieagjnaaDoor.nb
open Go.RowKit
abbrev e8 (b : Nat) : Value := .int .u8 (b : Int)
abbrev e64 (c : Nat) : Value := .int .i64 (c : Int)
/-- the slice v reads as l: nil, or at an address. -/
def Q (enc : Nat → Value) (w : World) (v : Value) (l : List Nat) : Prop := (v = .slice none 0 0 ∧ l = []) ∨ ∃ b o cap, v = .slice (some ⟨b, o, none⟩) l.length cap ∧ l.length ≤ cap ∧ ∀ i (h : i < l.length), w.cell? ⟨b, o + i, none⟩ = some (enc l[i])
namespace Q
variable {enc : Nat → Value} {w w' : World} {v : Value} {l : List Nat}
theorem nil (w : World) : Q enc w (.slice none 0 0) [] := .inl ⟨rfl, rfl⟩
theorem keep {K : Nat → Prop} (h : Q enc w v l) (hk : Keep K w w') (hK : ∀ k, v.ownBlock = some k → K k) : Q enc w' v l := by
  rcases h with h | ⟨b, o, cap, rfl, hc, hi⟩
  · exact .inl h
  · exact .inr ⟨b, o, cap, rfl, hc, fun i h => (hk.cell (p := ⟨b, o + i, none⟩) (World.block_lt_of_cell? w ⟨b, o + i, none⟩ (hi i h)) (hK b rfl)).trans (hi i h)⟩
theorem below (h : Q enc w v l) (hb : Below w.heap.size w w') : Q enc w' v l := by
  rcases h with h | ⟨b, o, cap, rfl, hc, hi⟩
  · exact .inl h
  · exact .inr ⟨b, o, cap, rfl, hc, fun i h => (hb.cell (p := ⟨b, o + i, none⟩) (World.block_lt_of_cell? w ⟨b, o + i, none⟩ (hi i h))).trans (hi i h)⟩
theorem drewN (h : Q enc w v l) (q : Nat) : Q enc (w.drewN q) v l := h.keep (Keep.drewN (fun _ => True) w q) fun _ _ => trivial
theorem slice (h : Q enc w v l) : ∃ a cap, v = .slice a l.length cap ∧ l.length ≤ cap := by
  rcases h with ⟨rfl, rfl⟩ | ⟨b, o, cap, rfl, hc, _⟩
  · exact ⟨_, _, rfl, Nat.le_refl _⟩
  · exact ⟨_, _, rfl, hc⟩
/-- the cell at a place. -/
theorem at_ (h : Q enc w v l) (i : Nat) (hi : i < l.length) : ∃ b o cap, v = .slice (some ⟨b, o, none⟩) l.length cap ∧ w.cell? ⟨b, o + i, none⟩ = some (enc (ct l i)) := by
  rcases h with ⟨rfl, rfl⟩ | ⟨b, o, cap, rfl, hc, hc'⟩
  · simp at hi
  · exact ⟨b, o, cap, rfl, by rw [hc' i hi]; simp [ct, hi]⟩
theorem of_own {base : Nat} {e : TypeId} (h : w.ownsRow base e 1 v l.length (l.map enc)) : Q enc w v l := by
  rcases h.2 with ⟨rfl, h0⟩ | ⟨g, cap, cur, rfl, _, _, hc, _⟩
  · exact .inl ⟨rfl, List.eq_nil_of_length_eq_zero h0⟩
  · refine .inr ⟨g, 0, cap, rfl, hc, fun i hi => ?_⟩
    have := h.cells (g := g) rfl i (enc l[i]) (by simp [hi])
    rwa [Addr.add_lit] at this
end Q
theorem info_i : (Tryd.prog.info? 3).map (fun i => (i.zero, i.size, i.bytes)) = some (some (.int .i64 0), 1, 8) := by kernel_rfl
theorem info_parts {P : Program} {e : TypeId} {z : Value} {size bytes : Nat} (h : (P.info? e).map (fun i => (i.zero, i.size, i.bytes)) = some (some z, size, bytes)) : ∃ i, P.info? e = some i ∧ i.zero = some z ∧ i.size = size ∧ i.bytes = bytes := by
  obtain ⟨i, hi, hz⟩ := Option.map_eq_some_iff.1 h
  simp only [Prod.mk.injEq] at hz
  exact ⟨i, hi, hz.1, hz.2.1, hz.2.2⟩
theorem app_step {P : Program} (w : World) {ops : Array Oper} {rest : List Oper} {o : Oper} {a : Act} {Q : Exit → Act → World → Prop} (hgd : o.guard = none) (s x : Operand) (t : TypeId)
    (ho : o.op = .call { callee := .builtin .append, args := #[s, x], argTypes := #[t, t] }) (v u : Value) (hs : a.eval s = v) (hx : a.eval x = u) {R : Value → World → Prop}
    (hrun : ∃ v' w', (Builtin.append_ #[t, t] o.type #[v, u]).run P w = .ok v' w' ∧ R v' w') (h : ∀ v' w', R v' w' → wpList P ops Q rest (a.put o.dst v') w') : wpList P ops Q (o :: rest) a w := by
  refine wpList_plain hgd fun _ hK => ?_
  obtain ⟨v', w', hr, hR⟩ := hrun
  unfold Oper.wp execOp
  simp only [ho, resolve, invoke, builtin, Sem.run_bind, Sem.run_pure, Result.andThen_ok, List.map_toArray, List.map_cons, List.map_nil, hs, hx, hr]
  exact hK _ _ (h v' w' hR)
theorem step_ex {P : Program} (w : World) {ops : Array Oper} {o : Oper} {a : Act} {K : Act → World → Prop} {Q : Exit → Act → World → Prop} {E : Prop} (hgd : o.guard = none) (s x : Operand) (t : TypeId)
    (ho : o.op = .call { callee := .builtin .append, args := #[s, x], argTypes := #[t, t] }) (v u : Value) (hs : a.eval s = v) (hx : a.eval x = u) {R : Value → World → Prop}
    (hrun : ∃ v' w', (Builtin.append_ #[t, t] o.type #[v, u]).run P w = .ok v' w' ∧ R v' w') (h : ∀ v' w', R v' w' → K (a.put o.dst v') w') :
    if Region.wanted o (yielded ops a.tmps) = true then Oper.wp P o a w K Q else E := by
  have hw : Region.wanted o (yielded ops a.tmps) = true := by simp [Region.wanted, hgd]
  rw [if_pos hw]
  obtain ⟨v', w', hr, hR⟩ := hrun
  unfold Oper.wp execOp
  simp only [ho, resolve, invoke, builtin, Sem.run_bind, Sem.run_pure, Result.andThen_ok, List.map_toArray, List.map_cons, List.map_nil, hs, hx, hr]
  exact h v' w' hR
theorem app_i {W : World} {base : Nat} {v0 : Value} {i : Nat} {ys zs : List Nat} {u : Value} (hown : W.ownsRow base 3 1 v0 i (ys.map e64)) (hu : Q e64 W u zs) (hi : i + zs.length ≤ 1000000) (hb : base ≤ W.heap.size) (ty : TypeId) :
    ∃ v' w', (Builtin.append_ #[63, 63] ty #[v0, u]).run Tryd.prog W = .ok v' w' ∧ w'.ownsRow base 3 1 v' (i + zs.length) ((ys ++ zs).map e64) ∧ W.grownBy w' v0.ownBlock := by
  obtain ⟨i0, hi0, hz0, hz1, hz2⟩ := info_parts info_i
  have hmax : maxLen = 9223372036854775807 := by decide
  rcases hu with ⟨rfl, rfl⟩ | ⟨b, o, cap, rfl, hc, hcell⟩
  · exact ⟨v0, W, run_append_owned_none W base 63 ty 3 i0 1 Tryd.underlying63 hi0 v0 i _ hown, by simpa using hown, World.grownBy.refl _ _⟩
  · obtain ⟨v', w1, hr, hown', hgrow, _⟩ := run_append_own (P := Tryd.prog) W base 63 ty 3 i0 (.int .i64 0) 1 8 Tryd.underlying63 hi0 hz0 hz1 hz2 rfl (by decide) v0 i _ hown ⟨b, o, none⟩ zs.length cap (zs.map e64) (by simp) (fun j u hu => by
      rw [List.getElem?_map, Option.map_eq_some_iff] at hu
      obtain ⟨x, hx, rfl⟩ := hu
      obtain ⟨hj, rfl⟩ := List.getElem?_eq_some_iff.1 hx
      rw [show (⟨b, o, none⟩ : Addr).add j = ⟨b, o + j, none⟩ by simp [Addr.add]]
      exact hcell j hj) (fun u hu => by obtain ⟨x, _, rfl⟩ := List.mem_map.1 hu; rfl) (by omega) (by omega) hb
    exact ⟨v', w1, hr, by rw [List.map_append]; exact hown', hgrow⟩
theorem empty_own (w : World) (e : TypeId) (enc : Nat → Value) : (w.alloc (.cells #[] e)).ownsRow w.heap.size e 1 (.slice (some ⟨w.heap.size, 0, none⟩) 0 0) 0 (([] : List Nat).map enc) := World.ownsRow_lit w #[] 0 (Nat.le_refl _) (by decide) rfl
theorem own_slice {w : World} {base : Nat} {e : TypeId} {size : Nat} {v : Value} {n : Nat} {xs : List Value} (h : w.ownsRow base e size v n xs) : ∃ a cap, v = .slice a n cap := by
  rcases h.2 with ⟨rfl, rfl⟩ | ⟨g, cap, cur, rfl, _⟩
  · exact ⟨_, _, rfl⟩
  · exact ⟨_, _, rfl⟩
/-- the bytes of a row. -/
theorem Nib.q {w : World} {r g : Nat} {cs : List Nat} (h : Nib w r g cs) : Q e8 w (.slice (some ⟨g, 0, none⟩) ((cs.length + 1) / 2) ((cs.length + 1) / 2)) (pack cs) :=
  .inr ⟨g, 0, (cs.length + 1) / 2, by rw [pack_len], by rw [pack_len]; exact Nat.le_refl _, fun i hi => by
    rw [Nat.zero_add, cell_of h.body]
    exact b8_get (by simp)⟩
/-- one more behind a row of one's own. -/
theorem push_i {W : World} {base k : Nat} {v : Value} {ys : List Nat} (ho : W.ownsRow base 3 1 v k (ys.map e64)) (hb : base ≤ W.heap.size) (hk : k ≤ 100000) (x : Nat) (ty : TypeId) :
    ∃ v' w', (Builtin.append_ #[63, 63] ty #[v, .slice (some ⟨W.heap.size, 0, none⟩) 1 1]).run Tryd.prog (W.alloc (.cells #[.int .i64 (x : Int)] 3)) = .ok v' w' ∧ ((∃ a c, v' = .slice a (k + 1) c) ∧ Hid (w'.ownsRow base 3 1 v' (k + 1) ((ys ++ [x]).map e64) ∧ Keep (fun k => k < base) W w')) := by
  obtain ⟨v', w', hr, h1, h2⟩ := app_i (zs := [x]) (u := .slice (some ⟨W.heap.size, 0, none⟩) 1 1) (ho.alloc (.cells #[.int .i64 (x : Int)] 3)) (.inr ⟨W.heap.size, 0, 1, rfl, Nat.le_refl _, fun i hi => by
    obtain rfl : i = 0 := by simpa using hi
    rw [cell_of (heap_next rfl _)]; rfl⟩) (by simp; omega) (by simp; omega) ty
  exact ⟨v', w', hr, own_slice h1, h1, (Keep.alloc _ _ _).trans (Keep.grown h2 fun j hj h => by have := (World.ownsRow.lt ho j hj).1; omega)⟩
end Go.Proofs.YtnhpcjiieagjnaaDoor.nb
