/-
  The document's rows (cortadoref08) by contracts: Put and Drop. Rows of keys with their things ('Es'), and how one thing more is appended to one's own.
-/
import Derived.Test.YtaoiadejafaleaaSeek
import Derived.Laws.AppendOwn
namespace Go.Proofs.Ytaoiadejafaleaa
open Go.RowKit
/-- the cells of a row. -/
def flat : List (Int × Int) → List Value
  | [] => []
  | e :: r => .int .i64 e.1 :: .int .i64 e.2 :: flat r
theorem flat_len : ∀ l, (flat l).length = l.length * 2
  | [] => rfl
  | e :: r => by simp only [flat, List.length_cons, flat_len r]; omega
theorem flat_append : ∀ l m, flat (l ++ m) = flat l ++ flat m
  | [], _ => rfl
  | e :: r, m => by simp [flat, flat_append r m]
theorem flat_0 : ∀ (l : List (Int × Int)) (i : Nat) (h : i < l.length), (flat l)[i * 2]? = some (.int .i64 l[i].1)
  | [], _, h => absurd h (by simp)
  | e :: r, 0, _ => rfl
  | e :: r, i + 1, h => by
    have := flat_0 r i (by simpa using h)
    rw [show (i + 1) * 2 = i * 2 + 1 + 1 by omega]
    simpa [flat] using this
theorem flat_1 : ∀ (l : List (Int × Int)) (i : Nat) (h : i < l.length), (flat l)[i * 2 + 1]? = some (.int .i64 l[i].2)
  | [], _, h => absurd h (by simp)
  | e :: r, 0, _ => rfl
  | e :: r, i + 1, h => by
    have := flat_1 r i (by simpa using h)
    rw [show (i + 1) * 2 + 1 = i * 2 + 1 + 1 + 1 by omega]
    simpa [flat] using this
theorem flat_one (l : List (Int × Int)) : ∀ u ∈ flat l, u.oneCell' = true := by
  induction l with
  | nil => intro u h; simp [flat] at h
  | cons e r ih =>
    intro u h
    simp only [flat, List.mem_cons] at h
    rcases h with rfl | rfl | h
    · rfl
    · rfl
    · exact ih u h
/-- the cells at a read as l. -/
def Ea (w : World) (a : Option Addr) (l : List (Int × Int)) : Prop := 0 < l.length → ∃ b o, a = some ⟨b, o, none⟩ ∧ ∀ i (h : i < l.length), w.cell? ⟨b, o + i * 2, none⟩ = some (.int .i64 l[i].1) ∧ w.cell? ⟨b, o + i * 2 + 1, none⟩ = some (.int .i64 l[i].2)
/-- the slice v reads as l. -/
def Es (w : World) (v : Value) (l : List (Int × Int)) : Prop := ∃ a cap, v = .slice a l.length cap ∧ l.length ≤ cap ∧ Ea w a l
section
variable {w w' : World} {a : Option Addr} {v : Value} {l : List (Int × Int)}
theorem Ea.below (h : Ea w a l) {N : Nat} (hN : w.heap.size ≤ N) (hb : Below N w w') : Ea w' a l := fun h0 => by
  obtain ⟨b, o, rfl, hi⟩ := h h0
  refine ⟨b, o, rfl, fun i h => ⟨(hb.cell (p := ⟨b, o + i * 2, none⟩) ?_).trans (hi i h).1, (hb.cell (p := ⟨b, o + i * 2 + 1, none⟩) ?_).trans (hi i h).2⟩⟩
  · exact Nat.lt_of_lt_of_le (World.block_lt_of_cell? w ⟨b, o + i * 2, none⟩ (hi i h).1) hN
  · exact Nat.lt_of_lt_of_le (World.block_lt_of_cell? w ⟨b, o + i * 2 + 1, none⟩ (hi i h).2) hN
theorem Es.below (h : Es w v l) (hb : Below w.heap.size w w') : Es w' v l := by
  obtain ⟨a, cap, h1, h2, h3⟩ := h
  exact ⟨a, cap, h1, h2, h3.below (Nat.le_refl _) hb⟩
theorem Es.nil (w : World) : Es w (.slice none 0 0) [] := ⟨none, 0, rfl, Nat.le_refl _, fun h => absurd h (by simp)⟩
theorem Es.of_own {base : Nat} (h : w.ownsRow base 44 2 v l.length (flat l)) : Es w v l := by
  rcases h.2 with ⟨rfl, h0⟩ | ⟨g, cap, cur, rfl, _, _, hc, _⟩
  · obtain rfl : l = [] := List.eq_nil_of_length_eq_zero h0
    exact Es.nil w
  · refine ⟨_, cap, rfl, hc, fun _ => ⟨g, 0, rfl, fun i hi => ⟨?_, ?_⟩⟩⟩
    · have := h.cells (g := g) rfl (i * 2) _ (flat_0 l i hi)
      rwa [Addr.add_lit] at this
    · have := h.cells (g := g) rfl (i * 2 + 1) _ (flat_1 l i hi)
      rwa [Addr.add_lit] at this
end
theorem info_e : (Try.prog.info? 44).map (fun i => (i.zero, i.size, i.bytes)) = some (some (.agg #[.int .i64 0, .int .i64 0]), 2, 16) := by kernel_rfl
theorem own_slice {w : World} {base : Nat} {e : TypeId} {size : Nat} {v : Value} {n : Nat} {xs : List Value} (h : w.ownsRow base e size v n xs) : ∃ a cap, v = .slice a n cap := by
  rcases h.2 with ⟨rfl, rfl⟩ | ⟨g, cap, cur, rfl, _⟩
  · exact ⟨_, _, rfl⟩
  · exact ⟨_, _, rfl⟩
/-- one's own row, and one thing more. -/
theorem app_e {w W : World} {base : Nat} {v : Value} {ys : List (Int × Int)} (hb : Below base w W) (hs : base ≤ W.heap.size) (hown : W.ownsRow base 44 2 v ys.length (flat ys)) (hn : ys.length ≤ 1000000) (k x : Int) (ty : TypeId) :
    ∃ v' w', (Builtin.append_ #[27, 27] ty #[v, .slice (some ⟨W.heap.size, 0, none⟩) 1 1]).run Try.prog (W.alloc (.cells #[.int .i64 k, .int .i64 x] 44)) = .ok v' w' ∧
      ((∃ a cap, v' = .slice a (ys.length + 1) cap) ∧ Hid (w'.ownsRow base 44 2 v' (ys.length + 1) (flat (ys ++ [(k, x)])) ∧ Below base w w' ∧ base ≤ w'.heap.size)) := by
  obtain ⟨i0, hi0, hz0, hz1, hz2⟩ := info_parts info_e
  have hmax : maxLen = 9223372036854775807 := by decide
  obtain ⟨v', w1, hr, hown', hgrow, _⟩ := run_append_own (P := Try.prog) (W.alloc (.cells #[.int .i64 k, .int .i64 x] 44)) base 27 ty 44 i0 (.agg #[.int .i64 0, .int .i64 0]) 2 16 Try.underlying27 hi0 hz0 hz1 hz2 rfl (by decide) v ys.length (flat ys) (hown.alloc _) ⟨W.heap.size, 0, none⟩ 1 1 (flat [(k, x)]) rfl
    (fun j u hu => by
      rw [Addr.add_lit]
      have hh : (W.alloc (.cells #[.int .i64 k, .int .i64 x] 44)).heap[W.heap.size]? = some (.cells #[.int .i64 k, .int .i64 x] 44 (0, 0)) := World.alloc_heap_new _ _
      rw [cell_of hh, ← hu]
      simp [flat]) (flat_one _) (by omega) (by omega) (by simp; omega)
  have ho : w1.ownsRow base 44 2 v' (ys.length + 1) (flat (ys ++ [(k, x)])) := by rw [flat_append]; exact hown'
  have hk : Below base W w1 := ((Keep.alloc (fun k => k < base) W _).trans (Keep.grown hgrow fun k hk h => by have := (World.ownsRow.lt hown k hk).1; omega)).below (fun _ h => h) hs
  exact ⟨v', w1, hr, own_slice ho, ho, hb.trans hk, Nat.le_trans hs hk.size⟩
theorem app_step {P : Program} (w : World) {ops : Array Oper} {rest : List Oper} {o : Oper} {a : Act} {Q : Exit → Act → World → Prop} (hgd : o.guard = none) (s x : Operand) (t : TypeId)
    (ho : o.op = .call { callee := .builtin .append, args := #[s, x], argTypes := #[t, t] }) (v u : Value) (hs : a.eval s = v) (hx : a.eval x = u) {R : Value → World → Prop}
    (hrun : ∃ v' w', (Builtin.append_ #[t, t] o.type #[v, u]).run P w = .ok v' w' ∧ R v' w') (h : ∀ v' w', R v' w' → wpList P ops Q rest (a.put o.dst v') w') : wpList P ops Q (o :: rest) a w := by
  refine wpList_plain hgd fun _ hK => ?_
  obtain ⟨v', w', hr, hR⟩ := hrun
  unfold Oper.wp execOp
  simp only [ho, resolve, invoke, builtin, Sem.run_bind, Sem.run_pure, Result.andThen_ok, List.map_toArray, List.map_cons, List.map_nil, hs, hx, hr]
  exact hK _ _ (h v' w' hR)
theorem len_one (ys : List (Int × Int)) (e : Int × Int) : (ys ++ [e]).length = ys.length + 1 := by simp
theorem take_one {l : List (Int × Int)} {i : Nat} (h : i < l.length) : l.take (i + 1) = l.take i ++ [(l[i].1, l[i].2)] := by rw [List.take_succ_eq_append_getElem h]
theorem del_filter {k : Int} {l : List (Int × Int)} (h : Up l) : del k l = l.filter fun e => decide (e.1 ≠ k) := by
  induction l with
  | nil => rfl
  | cons e r ih =>
    obtain ⟨h1, h2⟩ := h.cons
    have ih := ih h1
    rcases Int.lt_trichotomy e.1 k with hk | hk | hk
    · rw [del, lo_cons, hi_cons, if_pos hk, if_neg (by omega), List.filter_cons, if_pos (by simp; omega), ← ih]; rfl
    · rw [del, lo_cons, hi_cons, if_neg (by omega), if_neg (by omega), List.filter_cons, if_neg (by simp [hk]), ← ih]; rfl
    · rw [del, lo_cons, hi_cons, if_neg (by omega), if_pos hk, List.filter_cons, if_pos (by simp; omega), ← ih, del, lo_none (fun a ha => by have := h2 a ha; omega)]; rfl
set_option maxRecDepth 100000 in
set_option maxHeartbeats 2000000 in
theorem rdrop_any {w : World} {v : Value} {l : List (Int × Int)} (h : Es w v l) (hu : Up l) (hn : l.length ≤ 1000000) (k : Int) :
    Calls Try.prog 12 #[v, .int .i64 k] w fun e B => ∃ v', e = .returned v' ∧ Hid (Es B v' (del k l) ∧ Below w.heap.size w B) := by
  obtain ⟨a, cap, rfl, hc, ha⟩ := h
  obtain ⟨N, hN⟩ : ∃ N, w.heap.size = N := ⟨_, rfl⟩
  rw [hN]
  have HA := Lib.hid ha
  have HD := Lib.hid (del_filter (k := k) hu)
  clear ha hu
  go_enter Try.func12, Try.ntmps12
  go_wp2_with fail
  go_loopw [5, 6] (fun v i wr => ∃ j : Nat, j ≤ l.length ∧ i = .int .i64 j ∧ (∃ a c, v = .slice a ((l.take j).filter fun e => decide (e.1 ≠ k)).length c) ∧ Hid (wr.ownsRow N 44 2 v ((l.take j).filter fun e => decide (e.1 ≠ k)).length (flat ((l.take j).filter fun e => decide (e.1 ≠ k))) ∧ Below N w wr ∧ N ≤ wr.heap.size))
    (fun _ i _ => l.length - (intOf i).toNat)
  case atStart => exact ⟨0, Nat.zero_le _, rfl, ⟨none, 0, by simp⟩, Lib.hid ⟨by simpa [flat] using World.ownsRow_nil _ _ _ _, Below.refl _ _, by omega⟩⟩
  case round =>
    obtain ⟨j, hj, rfl, ⟨a5, c5, rfl⟩, hX⟩ := hrel
    by_cases hlt : j < l.length
    · obtain ⟨b, o, rfl, hcell⟩ := HA.out (by omega)
      have hb := hX.out.2.1
      have hcj := hcell j hlt
      have c0 : wr.cell? ⟨b, o + j * 2, none⟩ = some (.int .i64 l[j].1) := (hb.cell (p := ⟨b, o + j * 2, none⟩) (by have := World.block_lt_of_cell? w ⟨b, o + j * 2, none⟩ hcj.1; omega)).trans hcj.1
      have c1 : wr.cell? ⟨b, o + j * 2 + 1, none⟩ = some (.int .i64 l[j].2) := (hb.cell (p := ⟨b, o + j * 2 + 1, none⟩) (by have := World.block_lt_of_cell? w ⟨b, o + j * 2 + 1, none⟩ hcj.2; omega)).trans hcj.2
      have T := Lib.hid (take_one hlt)
      have L := List.length_filter_le (fun e : Int × Int => decide (e.1 ≠ k)) (l.take j)
      rw [List.length_take] at L
      obtain ⟨e0, he0⟩ : ∃ e0, l[j].1 = e0 := ⟨_, rfl⟩
      obtain ⟨e1, he1⟩ : ∃ e1, l[j].2 = e1 := ⟨_, rfl⟩
      rw [he0] at c0 T
      rw [he1] at c1 T
      have A := Lib.hid (app_e hX.out.2.1 hX.out.2.2 hX.out.1 (by omega) e0 e1 27)
      clear hb hcj hcell he0 he1
      by_cases hk : e0 = k
      · have e : (l.take (j + 1)).filter (fun e => decide (e.1 ≠ k)) = (l.take j).filter (fun e => decide (e.1 ≠ k)) := by rw [T.out, List.filter_append]; simp [hk]
        have E := Lib.hid e
        clear e L
        generalize hz : (l.take j).filter (fun e => decide (e.1 ≠ k)) = ys at *
        have H := Lib.hid hX
        clear hX
        subst hk
        go_wp2
        go_roundw
        case rel => exact ⟨j + 1, by omega, by simp, ⟨a5, c5, by rw [E.out]⟩, by rw [E.out]; exact H.out⟩
        case measure => simp [intOf]; omega
      · have e : (l.take (j + 1)).filter (fun e => decide (e.1 ≠ k)) = (l.take j).filter (fun e => decide (e.1 ≠ k)) ++ [(e0, e1)] := by rw [T.out, List.filter_append]; simp [hk]
        have E := Lib.hid e
        clear e L
        generalize hz : (l.take j).filter (fun e => decide (e.1 ≠ k)) = ys at *
        clear hX
        go_wp2_with (at_builtin; refine app_step _ rfl _ _ 27 rfl _ _ rfl rfl A.out ?_; rintro v2 w2 ⟨⟨a2, cap2, rfl⟩, hO⟩)
        go_roundw
        case rel => exact ⟨j + 1, by omega, by simp, ⟨a2, cap2, by rw [E.out, len_one]⟩, by rw [E.out, len_one]; exact hO⟩
        case measure => simp [intOf]; omega
    · obtain rfl : j = l.length := by omega
      have e : (l.take l.length).filter (fun e => decide (e.1 ≠ k)) = del k l := by rw [HD.out, List.take_length]
      rw [e]
      rw [e] at hX
      go_wp2
      go_ret
      exact ⟨_, rfl, Lib.hid ⟨Es.of_own hX.out.1, hX.out.2.1⟩⟩
/-- Put, when it has looked at xs. -/
def Pst (k x : Int) (xs : List (Int × Int)) (d : Bool) (out : List (Int × Int)) : Prop := (d = false ∧ (∀ a ∈ xs, a.1 < k) ∧ out = xs) ∨ (d = true ∧ (∃ a ∈ xs, k ≤ a.1) ∧ out = ins k x xs)
namespace Pst
variable {k x e0 e1 : Int} {xs out : List (Int × Int)}
theorem low (h : Pst k x xs false out) (he : e0 < k) : Pst k x (xs ++ [(e0, e1)]) false (out ++ [(e0, e1)]) := by
  rcases h with ⟨_, h1, rfl⟩ | ⟨h, _⟩
  · exact .inl ⟨rfl, fun a ha => by rcases List.mem_append.1 ha with h | h; exact h1 a h; simp at h; subst h; exact he, rfl⟩
  · cases h
theorem eq (h : Pst k x xs false out) (he : e0 = k) : Pst k x (xs ++ [(e0, e1)]) true (out ++ [(k, x)]) := by
  rcases h with ⟨_, h1, rfl⟩ | ⟨h, _⟩
  · refine .inr ⟨rfl, ⟨(e0, e1), by simp, by simp [he]⟩, ?_⟩
    rw [ins, lo_append, hi_append, lo_all h1, hi_none (fun a ha => by have := h1 a ha; omega), lo_cons, if_neg (by simp; omega), hi_cons, if_neg (by simp; omega)]
    simp [lo, hi]
  · cases h
theorem hit (h : Pst k x xs false out) (he : k < e0) : Pst k x (xs ++ [(e0, e1)]) true (out ++ [(k, x)] ++ [(e0, e1)]) := by
  rcases h with ⟨_, h1, rfl⟩ | ⟨h, _⟩
  · refine .inr ⟨rfl, ⟨(e0, e1), by simp, by simp; omega⟩, ?_⟩
    rw [ins, lo_append, hi_append, lo_all h1, hi_none (fun a ha => by have := h1 a ha; omega), lo_cons, if_neg (by simp; omega), hi_cons, if_pos (by simpa using he)]
    simp [lo, hi]
  · cases h
theorem above (h : Pst k x xs true out) (hu : Up (xs ++ [(e0, e1)])) : k < e0 := by
  rcases h with ⟨h, _⟩ | ⟨_, ⟨a, ha, hk⟩, rfl⟩
  · cases h
  · have := (List.pairwise_append.1 hu).2.2 a ha (e0, e1) (by simp)
    simp at this; omega
theorem on (h : Pst k x xs true out) (hu : Up (xs ++ [(e0, e1)])) : Pst k x (xs ++ [(e0, e1)]) true (out ++ [(e0, e1)]) := by
  have he := h.above hu
  rcases h with ⟨h, _⟩ | ⟨_, ⟨a, ha, hk⟩, rfl⟩
  · cases h
  · refine .inr ⟨rfl, ⟨a, by simp [ha], hk⟩, ?_⟩
    rw [ins, ins, lo_append, hi_append, lo_cons, if_neg (by simp; omega), hi_cons, if_pos (by simpa using he)]
    simp [lo, hi]
theorem fin0 (h : Pst k x xs false out) : out ++ [(k, x)] = ins k x xs := by
  rcases h with ⟨_, h1, rfl⟩ | ⟨h, _⟩
  · rw [ins, lo_all h1, hi_none (fun a ha => by have := h1 a ha; omega)]
  · cases h
theorem fin1 (h : Pst k x xs true out) : out = ins k x xs := by
  rcases h with ⟨h, _⟩ | ⟨_, _, h⟩
  · cases h
  · exact h
theorem len {d : Bool} (h : Pst k x xs d out) : out.length ≤ xs.length + 1 := by
  rcases h with ⟨_, _, rfl⟩ | ⟨_, _, rfl⟩
  · omega
  · exact ins_len x
end Pst
set_option maxRecDepth 100000 in
set_option maxHeartbeats 4000000 in
theorem rput_any {w : World} {v : Value} {l : List (Int × Int)} (h : Es w v l) (hu : Up l) (hn : l.length ≤ 900000) (k x : Int) :
    Calls Try.prog 10 #[v, .int .i64 k, .int .i64 x] w fun e B => ∃ v', e = .returned v' ∧ Hid (Es B v' (ins k x l) ∧ Below w.heap.size w B) := by
  obtain ⟨a, cap, rfl, hc, ha⟩ := h
  obtain ⟨N, hN⟩ : ∃ N, w.heap.size = N := ⟨_, rfl⟩
  rw [hN]
  have HA := Lib.hid ha
  have HU := Lib.hid hu
  clear ha hu
  go_enter Try.func10, Try.ntmps10
  go_wp2_with fail
  go_loopw [7, 8, 9] (fun v d i wr => ∃ (j : Nat) (q : Bool) (out : List (Int × Int)), j ≤ l.length ∧ i = .int .i64 j ∧ d = .bool q ∧ (∃ a c, v = .slice a out.length c) ∧ Hid (Pst k x (l.take j) q out ∧ wr.ownsRow N 44 2 v out.length (flat out) ∧ Below N w wr ∧ N ≤ wr.heap.size))
    (fun _ _ i _ => l.length - (intOf i).toNat)
  case atStart => exact ⟨0, false, [], Nat.zero_le _, rfl, rfl, ⟨none, 0, by simp⟩, Lib.hid ⟨.inl ⟨rfl, by simp, by simp⟩, by simpa [flat] using World.ownsRow_nil _ _ _ _, Below.refl _ _, by omega⟩⟩
  case round =>
    obtain ⟨j, q, out, hj, rfl, rfl, ⟨a5, c5, rfl⟩, hX⟩ := hrel
    have L := hX.out.1.len
    rw [List.length_take] at L
    by_cases hlt : j < l.length
    · obtain ⟨b, o, rfl, hcell⟩ := HA.out (by omega)
      have hcj := hcell j hlt
      have T := take_one hlt
      have hup : Up (l.take (j + 1)) := List.Pairwise.sublist (List.take_sublist _ _) HU.out
      obtain ⟨e0, he0⟩ : ∃ e0, l[j].1 = e0 := ⟨_, rfl⟩
      obtain ⟨e1, he1⟩ : ∃ e1, l[j].2 = e1 := ⟨_, rfl⟩
      rw [he0] at hcj T
      rw [he1] at hcj T
      have C : Hid (∀ W, Below N w W → W.cell? ⟨b, o + j * 2, none⟩ = some (.int .i64 e0) ∧ W.cell? ⟨b, o + j * 2 + 1, none⟩ = some (.int .i64 e1)) := fun W hb =>
        ⟨(hb.cell (p := ⟨b, o + j * 2, none⟩) (by have := World.block_lt_of_cell? w ⟨b, o + j * 2, none⟩ hcj.1; omega)).trans hcj.1, (hb.cell (p := ⟨b, o + j * 2 + 1, none⟩) (by have := World.block_lt_of_cell? w ⟨b, o + j * 2 + 1, none⟩ hcj.2; omega)).trans hcj.2⟩
      rw [T] at hup
      have TT := Lib.hid T
      have HP := Lib.hid hup
      clear hcj hcell he0 he1 T hup
      obtain ⟨c0, c1⟩ := C.out _ hX.out.2.2.1
      have hol : out.length ≤ 900001 := by omega
      clear L
      cases q with
      | false =>
        rcases Int.lt_trichotomy e0 k with hk | hk | hk
        · have A := Lib.hid (app_e hX.out.2.2.1 hX.out.2.2.2 hX.out.2.1 (by omega) e0 e1 27)
          have Y : Hid (Pst k x (l.take (j + 1)) false (out ++ [(e0, e1)])) := by rw [TT.out]; exact hX.out.1.low hk
          clear hX
          have hk1 : ¬ e0 = k := by omega
          go_wp2_with (at_builtin; refine app_step _ rfl _ _ 27 rfl _ _ rfl rfl A.out ?_; rintro v2 w2 ⟨⟨a2, cap2, rfl⟩, hO⟩)
          go_roundw
          case rel => exact ⟨j + 1, false, out ++ [(e0, e1)], by omega, by simp, rfl, ⟨a2, cap2, by rw [len_one]⟩, by rw [len_one]; exact Lib.hid ⟨Y.out, hO.out⟩⟩
          case measure => simp [intOf]; omega
        · have A := Lib.hid (app_e hX.out.2.2.1 hX.out.2.2.2 hX.out.2.1 (by omega) k x 27)
          have Y : Hid (Pst k x (l.take (j + 1)) true (out ++ [(k, x)])) := by rw [TT.out]; exact hX.out.1.eq hk
          clear hX
          subst hk
          go_wp2_with (at_builtin; refine app_step _ rfl _ _ 27 rfl _ _ rfl rfl A.out ?_; rintro v2 w2 ⟨⟨a2, cap2, rfl⟩, hO⟩; have d0 := (C.out _ hO.out.2.1).1)
          go_roundw
          case rel => exact ⟨j + 1, true, out ++ [(e0, x)], by omega, by simp, rfl, ⟨a2, cap2, by rw [len_one]⟩, by rw [len_one]; exact Lib.hid ⟨Y.out, hO.out⟩⟩
          case measure => simp [intOf]; omega
        · have A := Lib.hid (app_e hX.out.2.2.1 hX.out.2.2.2 hX.out.2.1 (by omega) k x 27)
          have B : Hid (∀ v' w', Hid (w'.ownsRow N 44 2 v' (out.length + 1) (flat (out ++ [(k, x)])) ∧ Below N w w' ∧ N ≤ w'.heap.size) → ∃ v'' w'', (Builtin.append_ #[27, 27] 27 #[v', .slice (some ⟨w'.heap.size, 0, none⟩) 1 1]).run Try.prog (w'.alloc (.cells #[.int .i64 e0, .int .i64 e1] 44)) = .ok v'' w'' ∧
              ((∃ a cap, v'' = .slice a (out.length + 1 + 1) cap) ∧ Hid (w''.ownsRow N 44 2 v'' (out.length + 1 + 1) (flat (out ++ [(k, x)] ++ [(e0, e1)])) ∧ Below N w w'' ∧ N ≤ w''.heap.size))) := fun v' w' hh => by
            have := app_e (ys := out ++ [(k, x)]) hh.out.2.1 hh.out.2.2 (by rw [len_one]; exact hh.out.1) (by rw [len_one]; omega) e0 e1 27
            rwa [len_one] at this
          have Y : Hid (Pst k x (l.take (j + 1)) true (out ++ [(k, x)] ++ [(e0, e1)])) := by rw [TT.out]; exact hX.out.1.hit hk
          clear hX
          have hk1 : ¬ e0 = k := by omega
          go_wp2_with (at_builtin; first
            | (refine app_step _ rfl _ _ 27 rfl _ _ rfl rfl (B.out _ _ hO) ?_; rintro v3 w3 ⟨⟨a3, cap3, rfl⟩, hO3⟩)
            | (refine app_step _ rfl _ _ 27 rfl _ _ rfl rfl A.out ?_; rintro v2 w2 ⟨⟨a2, cap2, rfl⟩, hO⟩; obtain ⟨d0, d1⟩ := C.out _ hO.out.2.1))
          go_roundw
          case rel => exact ⟨j + 1, true, out ++ [(k, x)] ++ [(e0, e1)], by omega, by simp, rfl, ⟨a3, cap3, by rw [len_one, len_one]⟩, by rw [len_one, len_one]; exact Lib.hid ⟨Y.out, hO3.out⟩⟩
          case measure => simp [intOf]; omega
      | true =>
        have A := Lib.hid (app_e hX.out.2.2.1 hX.out.2.2.2 hX.out.2.1 (by omega) e0 e1 27)
        have Y : Hid (Pst k x (l.take (j + 1)) true (out ++ [(e0, e1)])) := by rw [TT.out]; exact hX.out.1.on HP.out
        have hk := hX.out.1.above HP.out
        have hk1 : ¬ e0 = k := by omega
        clear hX
        go_wp2_with (at_builtin; refine app_step _ rfl _ _ 27 rfl _ _ rfl rfl A.out ?_; rintro v2 w2 ⟨⟨a2, cap2, rfl⟩, hO⟩)
        go_roundw
        case rel => exact ⟨j + 1, true, out ++ [(e0, e1)], by omega, by simp, rfl, ⟨a2, cap2, by rw [len_one]⟩, by rw [len_one]; exact Lib.hid ⟨Y.out, hO.out⟩⟩
        case measure => simp [intOf]; omega
    · obtain rfl : j = l.length := by omega
      rw [List.take_length] at hX
      cases q with
      | false =>
        have A := Lib.hid (app_e hX.out.2.2.1 hX.out.2.2.2 hX.out.2.1 (by omega) k x 27)
        have Y := Lib.hid hX.out.1.fin0
        clear hX L
        go_wp2_with (at_builtin; refine app_step _ rfl _ _ 27 rfl _ _ rfl rfl A.out ?_; rintro v2 w2 ⟨⟨a2, cap2, rfl⟩, hO⟩)
        go_ret
        refine ⟨_, rfl, Lib.hid ⟨?_, hO.out.2.1⟩⟩
        rw [← Y.out]
        exact Es.of_own (base := N) (by rw [len_one]; exact hO.out.1)
      | true =>
        have Y := Lib.hid hX.out.1.fin1
        clear L
        go_wp2
        go_ret
        exact ⟨_, rfl, Lib.hid ⟨by rw [← Y.out]; exact Es.of_own hX.out.2.1, hX.out.2.2.1⟩⟩
end Go.Proofs.Ytaoiadejafaleaa
