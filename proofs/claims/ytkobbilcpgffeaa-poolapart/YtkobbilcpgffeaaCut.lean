/-
  PoolPlays, its state: one of those that are out is out no more; a box beside it; what is asked of the pool.
-/
import Derived.Test.YtkobbilcpgffeaaPlays
import Derived.RegionTactic
namespace Go.Proofs.Ytkobbilcpgffeaa
open Go.RowKit
theorem app_any {P : Program} {t e : TypeId} {z : Value} {bytes : Nat} (hinfo : (P.info? e).map (fun i => (i.zero, i.size, i.bytes)) = some (some z, 1, bytes)) (ht : P.underlying t = some (.slice e)) (hz : z.cells.size = 1) (hby : bytes ≤ 24) {W : World} {base : Nat} {v : Value} {n : Nat} {xs ys : List Value} (hown : W.ownsRow base e 1 v n xs)
    (X o c m : Nat) (hm : ys.length = m) (h1 : ∀ u ∈ ys, u.oneCell' = true) (hX : ∀ j u, ys[j]? = some u → W.cell? ⟨X, o + j, none⟩ = some u) (hn : n + m ≤ 1000000) (hb : base ≤ W.heap.size) (ty : TypeId) :
    ∃ v' w', (Builtin.append_ #[t, t] ty #[v, .slice (some ⟨X, o, none⟩) m c]).run P W = .ok v' w' ∧ w'.ownsRow base e 1 v' (n + m) (xs ++ ys) ∧ W.grownBy w' v.ownBlock := by
  subst hm
  obtain ⟨i, hi, hz0, hz1, hz2⟩ := info_parts hinfo
  have hmax : maxLen = 9223372036854775807 := by decide
  have hbb : (n + ys.length) * bytes ≤ 1000000 * 24 := Nat.mul_le_mul hn hby
  obtain ⟨v', w', hr, h2, h3, _⟩ := run_append_own (P := P) W base t ty e i z 1 bytes ht hi hz0 hz1 hz2 hz (by decide) v n xs hown ⟨X, o, none⟩ ys.length c ys (by simp) (fun j u hu => by
    rw [show (⟨X, o, none⟩ : Addr).add j = ⟨X, o + j, none⟩ by simp [Addr.add]]
    exact hX j u hu) h1 (by omega) (by omega) hb
  exact ⟨v', w', hr, h2, h3⟩
theorem step_ex {P : Program} (w : World) {ops : Array Oper} {o : Oper} {a : Act} {K : Act → World → Prop} {Q : Exit → Act → World → Prop} {E : Prop} (hgd : o.guard = none) (s x : Operand) (t : TypeId)
    (ho : o.op = .call { callee := .builtin .append, args := #[s, x], argTypes := #[t, t] }) (v u : Value) (hs : a.eval s = v) (hx : a.eval x = u) {R : Value → World → Prop}
    (hrun : ∃ v' w', (Builtin.append_ #[t, t] o.type #[v, u]).run P w = .ok v' w' ∧ R v' w') (h : ∀ v' w', R v' w' → K (a.put o.dst v') w') :
    if Region.wanted o (yielded ops a.tmps) = true then Oper.wp P o a w K Q else E := by
  have hw : Region.wanted o (yielded ops a.tmps) = true := by simp [Region.wanted, hgd]
  rw [if_pos hw]
  obtain ⟨v', w', hr, hR⟩ := hrun
  unfold Oper.wp execOp
  simp only [ho, resolve, invoke, builtin, Sem.run_bind, Sem.run_pure, Result.andThen_ok, List.map_toArray, List.map_cons, List.map_nil, hs, hx, hr]
  exact h v' w' hR
theorem own_slice {w : World} {base : Nat} {e : TypeId} {size : Nat} {v : Value} {n : Nat} {xs : List Value} (h : w.ownsRow base e size v n xs) : ∃ a cap, v = .slice a n cap := by
  rcases h.2 with ⟨rfl, rfl⟩ | ⟨g, cap, cur, rfl, _⟩
  · exact ⟨_, _, rfl⟩
  · exact ⟨_, _, rfl⟩
theorem elem29 : Try.prog.underlying 29 = some (.slice (Try.prog.elem 29)) := by kernel_rfl
theorem size29 (w : World) : (sizeOf (Try.prog.elem 29)).run Try.prog w = .ok 1 w := by kernel_rfl
theorem cut_h (s n cap k : Nat) (hk : k < n) (hc : n ≤ cap) : ∀ W', (Instr.slice 29 (.slice (some ⟨s, 0, none⟩) n cap) none (some (.int .i64 (k : Int))) none).run Try.prog W' = .ok (.slice (some ⟨s, 0, none⟩) k cap) W' := fun W' => by
  rw [run_slice_h W' 29 (some ⟨s, 0, none⟩) n cap elem29 .i64 k (by omega) (by omega), size29]
  have : ¬ cap = 0 := by omega
  simp [sliced, this, Addr.add]
theorem cut_l (s n cap k : Nat) (hk : k < n) (hc : n ≤ cap) : ∃ o, (∀ W', (Instr.slice 29 (.slice (some ⟨s, 0, none⟩) n cap) (some (.int .i64 ((k : Int) + 1))) none none).run Try.prog W' = .ok (.slice (some ⟨s, o, none⟩) (n - (k + 1)) (cap - (k + 1))) W') ∧ (k + 1 < n → o = k + 1) := by
  refine ⟨if cap = k + 1 then 0 else k + 1, fun W' => ?_, fun h => by rw [if_neg (by omega)]⟩
  rw [show ((k : Int) + 1) = ((k + 1 : Nat) : Int) by omega, run_slice_l W' 29 (some ⟨s, 0, none⟩) n cap elem29 .i64 ((k + 1 : Nat) : Int) (by omega) (by omega), size29]
  by_cases h : cap = k + 1 <;> simp [sliced, h, Addr.add]
namespace St
variable {w W W' : World} {N X room spare bm bn pm pn : Nat} {vo : Value} {os l1 l2 : List Nat} {g : Nat} {F E : Nat → Prop}
/-- the one behind l1 is out no more; those that are still out lie in a row of their own. -/
theorem cut (h : St w N X room spare bm bn pm pn vo (l1 ++ g :: l2) F no W) {w2 : World} {v2 : Value} (hk : Keep (fun k => k < W.heap.size) W w2) (ho : w2.ownsRow W.heap.size 22 1 v2 (l1 ++ l2).length ((l1 ++ l2).map (bv room 1))) : St w N X room spare bm bn pm pn v2 (l1 ++ l2) F (fun k => k = g) w2 := by
  have hsub : ∀ b, b ∈ l1 ++ l2 → b ∈ l1 ++ g :: l2 := fun b hb => by
    simp only [List.mem_append, List.mem_cons] at hb ⊢
    rcases hb with hb | hb
    · exact .inl hb
    · exact .inr (.inr hb)
  have hon := h.once
  have hsl : List.Sublist (l1 ++ l2) (l1 ++ g :: l2) := List.Sublist.append_left (List.sublist_cons_self _ _) _
  have hgn : g ∉ l1 ++ l2 := by
    have : (g :: (l1 ++ l2)).Nodup := (List.perm_middle.nodup_iff).1 hon
    exact (List.nodup_cons.1 this).1
  have hgm : g ∈ l1 ++ g :: l2 := by simp
  have hXl := heap_lt h.box
  have hge := h.ge
  have hv2 : ∀ k, v2.ownBlock = some k → W.heap.size ≤ k := fun k e => (World.ownsRow.lt ho k e).1
  have hro : w2.ownsRow N 22 1 v2 (l1 ++ l2).length ((l1 ++ l2).map (bv room 1)) := by
    refine ⟨ho.1, ?_⟩
    rcases ho.2 with h0 | ⟨s, cap, cur, h1, h2, h3⟩
    · exact .inl h0
    · exact .inr ⟨s, cap, cur, h1, by omega, h3⟩
  refine ⟨hk.heap h.box hXl, hro, fun b hb => (h.bufs b (hsub b hb)).keep hk (h.bufs b (hsub b hb)).lt, hon.sublist hsl, fun hb => h.xo (hsub _ hb), fun k e => ?_, fun b hb => h.low b (hsub b hb), fun k hf => ⟨Nat.lt_of_lt_of_le (h.fx k hf).1 hk.size, (h.fx k hf).2.1, fun hb => (h.fx k hf).2.2.1 (hsub _ hb), fun e => ?_⟩, fun b e => ?_, ?_, h.old.trans (hk.below (fun k hk => by have := h.size; omega) h.size), h.ge⟩
  · have := hv2 k e
    exact ⟨by omega, fun hb => by have := (h.bufs k (hsub k hb)).lt; omega⟩
  · have := hv2 k e
    have := (h.fx k hf).1
    omega
  · subst e
    refine ⟨(h.bufs b hgm).keep hk (h.bufs b hgm).lt, fun hK => ?_⟩
    have hlt := (h.bufs b hgm).lt
    rcases hK with hK | hK | hK | hK | hK
    · have := h.low b hgm; omega
    · exact h.xo (hK ▸ hgm)
    · have := hv2 b hK; omega
    · exact hgn hK
    · exact (h.fx b hK).2.2.1 hgm
  · refine (h.has.more (K' := fun k => (Kb N X vo (l1 ++ g :: l2) F k ∨ no k) ∨ W.heap.size ≤ k) fun k hk => ?_).below (hk.below (fun _ h => h) (Nat.le_refl _)) |>.more fun k hk => .inl ?_
    · rcases hk with hk | hk
      · exact .inl hk
      · exact .inr hk
    · rcases hk with (hk | hk | hk | hk | hk) | hk
      · exact .inl (.inl (.inl hk))
      · exact .inl (.inl (.inr (.inl hk)))
      · exact .inr (hv2 k hk)
      · exact .inl (.inl (.inr (.inr (.inr (.inl (hsub k hk))))))
      · exact .inl (.inl (.inr (.inr (.inr (.inr hk)))))
      · exact .inl (.inl (.inr (.inr (.inr (.inl (hk ▸ hgm))))))
/-- a new box beside it. -/
theorem next (h : St w N X room spare bm bn pm pn vo os no E W) (o : Obj) : St w N X room spare bm bn pm pn vo os (fun k => k = W.heap.size) E (W.alloc o) := by
  have hA := h.alloc o
  have hXl := heap_lt h.box
  refine ⟨hA.box, hA.row, hA.bufs, hA.once, hA.xo, hA.vx, hA.low, fun k e => ?_, fun b hb => ⟨(hA.ex b hb).1, fun hK => ?_⟩, ?_, hA.old, hA.ge⟩
  · subst e
    exact ⟨by simp, hXl, fun hb => by have := (h.bufs _ hb).lt; omega, fun e => by have := (World.ownsRow.lt h.row _ e).2; omega⟩
  · rcases hK with hK | hK | hK | hK | hK
    · exact (h.ex b hb).2 (.inl hK)
    · exact (h.ex b hb).2 (.inr (.inl hK))
    · exact (h.ex b hb).2 (.inr (.inr (.inl hK)))
    · exact (h.ex b hb).2 (.inr (.inr (.inr (.inl hK))))
    · have := (h.ex b hb).1.lt; omega
  · refine (h.has.more fun k hk => ?_).below ((Below.refl _ W).alloc (Nat.le_refl _) o)
    rcases hk with (hk | hk | hk | hk | hk) | hk
    · exact .inl (.inl (.inl hk))
    · exact .inl (.inl (.inr (.inl hk)))
    · exact .inl (.inl (.inr (.inr (.inl hk))))
    · exact .inl (.inl (.inr (.inr (.inr (.inl hk)))))
    · exact .inr (by omega)
    · exact .inl (.inr hk)
/-- that box is no more of concern. -/
theorem past (h : St w N X room spare bm bn pm pn vo os F E W) : St w N X room spare bm bn pm pn vo os no E W := by
  have hK : ∀ k, Kb N X vo os no k → Kb N X vo os F k := fun k hk => by
    rcases hk with hk | hk | hk | hk | hk
    · exact .inl hk
    · exact .inr (.inl hk)
    · exact .inr (.inr (.inl hk))
    · exact .inr (.inr (.inr (.inl hk)))
    · exact hk.elim
  exact ⟨h.box, h.row, h.bufs, h.once, h.xo, h.vx, h.low, fun _ e => e.elim, fun b hb => ⟨(h.ex b hb).1, fun hk => (h.ex b hb).2 (hK b hk)⟩, h.has.more fun k hk => .inl (by rcases hk with hk | hk; exact .inl (hK k hk); exact .inr hk), h.old, h.ge⟩
/-- the first part, laid anew. -/
theorem part1 {s cap : Nat} (h : St w N X room spare bm bn pm pn (.slice (some ⟨s, 0, none⟩) (l1 ++ g :: l2).length cap) (l1 ++ g :: l2) F E W) (hn : (l1 ++ g :: l2).length ≤ 1000) (W1 : World) (hE : W1.heap[W.heap.size]? = some (.cells #[] 22 (0, 0))) (hk : Keep (fun k => k < W.heap.size) W W1) (ty : TypeId) :
    ∃ v' w', (Builtin.append_ #[29, 29] ty #[.slice (some ⟨W.heap.size, 0, none⟩) 0 0, .slice (some ⟨s, 0, none⟩) l1.length cap]).run Try.prog W1 = .ok v' w' ∧ Hid (w'.ownsRow W.heap.size 22 1 v' l1.length (l1.map (bv room 1)) ∧ Keep (fun k => k < W.heap.size) W w') := by
  have hsl := (World.ownsRow.lt h.row s rfl).2
  obtain ⟨v', w', hr, ho, hg⟩ := app_any info_row Try.underlying29 (by rfl) (by decide) (W := W1) (base := W.heap.size) (v := .slice (some ⟨W.heap.size, 0, none⟩) 0 0) (n := 0) (xs := []) ⟨rfl, .inr ⟨_, 0, #[], rfl, Nat.le_refl _, hE, Nat.le_refl _, by decide, rfl, rfl⟩⟩ s 0 cap l1.length (ys := l1.map (bv room 1)) (by simp) (fun u hu => by obtain ⟨b, _, rfl⟩ := List.mem_map.1 hu; rfl) (fun j u hu => by
    rw [Nat.zero_add]
    have := h.row.cells (g := s) rfl j u (by rw [List.map_append, List.getElem?_append_left (by have := (List.getElem?_eq_some_iff.1 hu).1; exact this)]; exact hu)
    rw [Addr.add_lit, Nat.zero_add] at this
    exact (hk.cell (p := ⟨s, j, none⟩) hsl hsl).trans this) (by simp at hn; omega) hk.size ty
  refine ⟨v', w', hr, by simpa using ho, hk.trans (Keep.grown hg fun k e h => ?_)⟩
  simp [Value.ownBlock] at e
  omega
/-- and the second one behind it. -/
theorem part2 {s cap o : Nat} (h : St w N X room spare bm bn pm pn (.slice (some ⟨s, 0, none⟩) (l1 ++ g :: l2).length cap) (l1 ++ g :: l2) F no W) (hn : (l1 ++ g :: l2).length ≤ 1000) (hO : l1.length + 1 < (l1 ++ g :: l2).length → o = l1.length + 1) (v1 : Value) (w1 : World) (h1 : Hid (w1.ownsRow W.heap.size 22 1 v1 l1.length (l1.map (bv room 1)) ∧ Keep (fun k => k < W.heap.size) W w1)) (ty : TypeId) :
    ∃ v' w', (Builtin.append_ #[29, 29] ty #[v1, .slice (some ⟨s, o, none⟩) ((l1 ++ g :: l2).length - (l1.length + 1)) (cap - (l1.length + 1))]).run Try.prog w1 = .ok v' w' ∧ ((∃ a c, v' = .slice a (l1 ++ l2).length c) ∧ Hid (St w N X room spare bm bn pm pn v' (l1 ++ l2) F (fun k => k = g) w')) := by
  have hsl := (World.ownsRow.lt h.row s rfl).2
  obtain ⟨h1, hk⟩ := h1.out
  have hlen : (l1 ++ g :: l2).length = l1.length + 1 + l2.length := by simp; omega
  obtain ⟨v', w', hr, ho, hg⟩ := app_any info_row Try.underlying29 (by rfl) (by decide) h1 s o (cap - (l1.length + 1)) ((l1 ++ g :: l2).length - (l1.length + 1)) (ys := l2.map (bv room 1)) (by simp; omega) (fun u hu => by obtain ⟨b, _, rfl⟩ := List.mem_map.1 hu; rfl) (fun j u hu => by
    have hj := (List.getElem?_eq_some_iff.1 hu).1
    rw [List.length_map] at hj
    rw [hO (by omega)]
    have := h.row.cells (g := s) rfl (l1.length + 1 + j) u (by
      rw [List.map_append, List.getElem?_append_right (by simp; omega), List.length_map, show l1.length + 1 + j - l1.length = j + 1 by omega, List.map_cons, List.getElem?_cons_succ]
      exact hu)
    rw [Addr.add_lit, Nat.zero_add] at this
    exact (hk.cell (p := ⟨s, l1.length + 1 + j, none⟩) hsl hsl).trans this) (by omega) hk.size ty
  have ho' : w'.ownsRow W.heap.size 22 1 v' (l1 ++ l2).length ((l1 ++ l2).map (bv room 1)) := by
    rw [List.map_append, List.length_append]
    rwa [show l1.length + ((l1 ++ g :: l2).length - (l1.length + 1)) = l1.length + l2.length by omega] at ho
  refine ⟨v', w', hr, own_slice ho', h.cut (hk.trans (Keep.grown hg fun k e h' => ?_)) ho'⟩
  have := (World.ownsRow.lt h1 k e).1
  omega
theorem refuse (h : St w N X room spare bm bn pm pn vo os F E W) (a : Option Addr) (m c : Nat) (hc : ¬ c = room) : Calls Try.prog 11 #[.pointer (some ⟨N, 0, none⟩), .slice a m c] W fun e B => e = .returned (.bool false) ∧ ∃ q, B = W.drewN q := h.has.refuse a m c hc
theorem made_ (h : St w N X room spare bm bn pm pn vo os F E W) : Calls Try.prog 12 #[.pointer (some ⟨N, 0, none⟩)] W fun e B => e = .returned (.int .i64 (pm : Int)) ∧ B = W := h.has.made_
theorem spare_ (h : St w N X room spare bm bn pm pn vo os F E W) : Calls Try.prog 13 #[.pointer (some ⟨N, 0, none⟩)] W fun e B => e = .returned (.int .i64 (pn : Int)) ∧ B = W := h.has.spare_
theorem room_ (h : St w N X room spare bm bn pm pn vo os F E W) : Calls Try.prog 14 #[.pointer (some ⟨N, 0, none⟩)] W fun e B => e = .returned (.int .i64 (room : Int)) ∧ B = W := h.has.room_
end St
end Go.Proofs.Ytkobbilcpgffeaa
