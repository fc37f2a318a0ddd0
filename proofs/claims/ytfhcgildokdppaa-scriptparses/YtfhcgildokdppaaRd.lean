/-
  Read of package prog by its contract, for every tape: the program at its place; rows of calls, made by appending.
-/
import Derived.Test.YtfhcgildokdppaaLi
namespace Go.Proofs.Ytfhcgildokdppaa
open Go.RowKit Go.Shelf tp
/-- the cells of a row of calls. -/
def flat : List Opn → List Value
  | [] => []
  | o :: r => .int .i64 o.k :: .int .i64 o.key :: .int .i64 o.val :: .int .i64 o.cost :: .int .i64 o.ttl :: flat r
theorem flat_len : ∀ l, (flat l).length = l.length * 5
  | [] => rfl
  | o :: r => by simp only [flat, List.length_cons, flat_len r]; omega
theorem flat_append : ∀ l m, flat (l ++ m) = flat l ++ flat m
  | [], _ => rfl
  | o :: r, m => by simp [flat, flat_append r m]
theorem flat_at : ∀ (l : List Opn) (i : Nat) (h : i < l.length), (flat l)[i * 5]? = some (.int .i64 l[i].k) ∧ (flat l)[i * 5 + 1]? = some (.int .i64 l[i].key) ∧ (flat l)[i * 5 + 2]? = some (.int .i64 l[i].val) ∧ (flat l)[i * 5 + 3]? = some (.int .i64 l[i].cost) ∧ (flat l)[i * 5 + 4]? = some (.int .i64 l[i].ttl)
  | [], _, h => absurd h (by simp)
  | o :: r, 0, _ => ⟨rfl, rfl, rfl, rfl, rfl⟩
  | o :: r, i + 1, h => by
    have := flat_at r i (by simpa using h)
    rw [show (i + 1) * 5 = i * 5 + 1 + 1 + 1 + 1 + 1 by omega, show i * 5 + 1 + 1 + 1 + 1 + 1 + 1 = i * 5 + 1 + 1 + 1 + 1 + 1 + 1 from rfl]
    refine ⟨by simpa [flat] using this.1, ?_, ?_, ?_, ?_⟩
    · simpa [flat] using this.2.1
    · rw [show i * 5 + 1 + 1 + 1 + 1 + 1 + 2 = i * 5 + 2 + 1 + 1 + 1 + 1 + 1 by omega]
      simpa [flat] using this.2.2.1
    · rw [show i * 5 + 1 + 1 + 1 + 1 + 1 + 3 = i * 5 + 3 + 1 + 1 + 1 + 1 + 1 by omega]
      simpa [flat] using this.2.2.2.1
    · rw [show i * 5 + 1 + 1 + 1 + 1 + 1 + 4 = i * 5 + 4 + 1 + 1 + 1 + 1 + 1 by omega]
      simpa [flat] using this.2.2.2.2
theorem flat_one (l : List Opn) : ∀ u ∈ flat l, u.oneCell' = true := by
  induction l with
  | nil => intro u h; simp [flat] at h
  | cons e r ih =>
    intro u h
    simp only [flat, List.mem_cons] at h
    rcases h with rfl | rfl | rfl | rfl | rfl | h
    · rfl
    · rfl
    · rfl
    · rfl
    · rfl
    · exact ih u h
theorem Ea.of_own {w : World} {base : Nat} {v : Value} {l : List Opn} (h : w.ownsRow base 53 5 v l.length (flat l)) : ∃ q c, v = .slice q l.length c ∧ l.length ≤ c ∧ Ea w q l ∧ (q = none → l = [] ∧ c = 0) ∧ ∀ b o, q = some ⟨b, o, none⟩ → base ≤ b := by
  rcases h.2 with ⟨rfl, h0⟩ | ⟨g, cap, cur, rfl, hg, _, hc, _⟩
  · obtain rfl := List.eq_nil_of_length_eq_zero h0
    exact ⟨none, 0, rfl, by omega, Ea.nil _ _, fun _ => ⟨rfl, rfl⟩, fun _ _ h => by simp at h⟩
  · refine ⟨_, cap, rfl, hc, fun _ => ⟨g, 0, rfl, fun i hi => ?_⟩, (by simp), fun b o h => ?_⟩
    · obtain ⟨f0, f1, f2, f3, f4⟩ := flat_at l i hi
      have e : ∀ j u, (flat l)[j]? = some u → w.cell? ⟨g, 0 + j, none⟩ = some u := fun j u hu => by
        have := h.cells (g := g) rfl j u hu
        rwa [Addr.add_lit] at this
      exact ⟨e _ _ f0, by rw [Nat.add_assoc]; exact e _ _ f1, by rw [Nat.add_assoc]; exact e _ _ f2, by rw [Nat.add_assoc]; exact e _ _ f3, by rw [Nat.add_assoc]; exact e _ _ f4⟩
    · simp at h
      omega
theorem info_o : (Try.prog.info? 53).map (fun i => (i.zero, i.size, i.bytes)) = some (some (.agg #[.int .i64 0, .int .i64 0, .int .i64 0, .int .i64 0, .int .i64 0]), 5, 40) := by kernel_rfl
/-- a row of calls of one's own, made so far; what K is of stands. -/
def Mo (K : Nat → Prop) (base : Nat) (w : World) (v : Value) (ys : List Opn) (W : World) : Prop := W.ownsRow base 53 5 v ys.length (flat ys) ∧ Keep K w W ∧ base ≤ W.heap.size
theorem Mo.sl {K : Nat → Prop} {base : Nat} {w W : World} {v : Value} {ys : List Opn} (h : Mo K base w v ys W) : ∃ a c, v = .slice a ys.length c := tp.own_slice h.1
theorem Mo.keep {K M : Nat → Prop} {base : Nat} {w W B : World} {v : Value} {ys : List Opn} (h : Mo K base w v ys W) (hk : Keep M W B) (h1 : ∀ k, K k → M k) (h2 : ∀ k, base ≤ k → M k) : Mo K base w v ys B :=
  ⟨hk.own h.1 fun k hk' => h2 k (World.ownsRow.lt h.1 k hk').1, h.2.1.trans (hk.mono fun k _ hK => h1 k hK), Nat.le_trans h.2.2 hk.size⟩
/-- one call appended. -/
theorem push_op {K : Nat → Prop} {base : Nat} {w W : World} {v : Value} {ys : List Opn} (h : Mo K base w v ys W) (hK : ∀ k, K k → k < base) (o : Opn) (hl : ys.length ≤ 1000000) (ty : TypeId) :
    ∃ v' w', (Builtin.append_ #[30, 30] ty #[v, .slice (some ⟨W.heap.size, 0, none⟩) 1 1]).run Try.prog (W.alloc (.cells (ocs o) 53)) = .ok v' w' ∧ ((∃ a c, v' = .slice a (ys.length + 1) c) ∧ Hid (Mo K base w v' (ys ++ [o]) w' ∧ Keep (fun k => ¬ v.ownBlock = some k) W w')) := by
  obtain ⟨i0, hi0, hz0, hz1, hz2⟩ := info_parts info_o
  have hmax : maxLen = 9223372036854775807 := by decide
  obtain ⟨v', w1, hr, hown', hgrow, _⟩ := run_append_own (P := Try.prog) (W.alloc (.cells (ocs o) 53)) base 30 ty 53 i0 (.agg #[.int .i64 0, .int .i64 0, .int .i64 0, .int .i64 0, .int .i64 0]) 5 40 Try.underlying30 hi0 hz0 hz1 hz2 rfl (by decide) v ys.length (flat ys) (h.1.alloc _) ⟨W.heap.size, 0, none⟩ 1 1 (flat [o]) rfl
    (fun j u hu => by
      rw [Addr.add_lit]
      have hh : (W.alloc (.cells (ocs o) 53)).heap[W.heap.size]? = some (.cells (ocs o) 53 (0, 0)) := World.alloc_heap_new _ _
      rw [cell_of hh, ← hu]
      simp [flat]) (flat_one _) (by omega) (by omega) (by have := h.2.2; simp; omega)
  have ho : w1.ownsRow base 53 5 v' (ys.length + 1) (flat (ys ++ [o])) := by rw [flat_append]; exact hown'
  have hk : Keep (fun k => ¬ v.ownBlock = some k) W w1 := (Keep.alloc _ _ _).trans (Keep.grown hgrow fun j hj h' => h' hj)
  refine ⟨v', w1, hr, tp.own_slice ho, ⟨by rw [List.length_append]; exact ho, h.2.1.trans (hk.mono fun k _ hKk e => ?_), Nat.le_trans h.2.2 hk.size⟩, hk⟩
  have := (World.ownsRow.lt h.1 k e).1
  have := hK k hKk
  omega
/-- the blocks of a tape. -/
def Ft (D : Nat) (q : Option Addr) (bs : List Nat) (j : Nat) : Prop := j = D ∨ (0 < bs.length ∧ ∃ o, q = some ⟨j, o, none⟩)
theorem Ft.lt {t cap : Nat} {w : World} {D : Nat} {q : Option Addr} {bs : List Nat} {a : Nat} (h : Tp t cap w D q bs a) {j : Nat} (hj : Ft D q bs j) : j < w.heap.size := by
  rcases hj with rfl | ⟨h0, o, hq⟩
  · exact h.lt
  · exact h.lst.lt hq h0
theorem tp_keep {t cap : Nat} {w B : World} {D : Nat} {q : Option Addr} {bs : List Nat} {a : Nat} (h : Tp t cap w D q bs a) {K : Nat → Prop} (hk : Keep K w B) (hK : ∀ j, Ft D q bs j → K j) : Tp t cap B D q bs a :=
  h.keep hk (hK D (.inl rfl)) fun b o hq h0 => hK b (.inr ⟨h0, o, hq⟩)
/-- a call's numbers read from a tape. -/
theorem fill_tape {cap : Nat} {w : World} {D : Nat} {q : Option Addr} {bs : List Nat} {a : Nat} (k : Int) (h : Tp 76 cap w D q bs a) :
    Calls Try.prog 57 #[.int .i64 k, .func (.func 37) #[.pointer (some ⟨D, 0, none⟩)] #[]] w fun e B => e = .returned (opv (fill k fun i => iv bs (pa bs a i))) ∧ Hid (Tp 76 cap B D q bs (pa bs a (pls k).length) ∧ Keep (fun j => ¬ Ft D q bs j) w B) :=
  (filledB k D (fun i A => Tp 76 cap A D q bs (pa bs a i)) (Ft D q bs) (fun i => iv bs (pa bs a i)) w (fun _ _ _ hs hk => tp_keep hs hk fun _ hj => hj) (fun _ hj => hj.lt h)
    (fun _ _ _ hs => (int7 hs).mono fun _ _ ⟨he, g⟩ => ⟨he, g.out.1, g.out.2.mono fun _ _ hj e => hj (.inl e)⟩) h).mono fun _ _ ⟨he, hF⟩ => ⟨he, hF.out.1, hF.out.2⟩
/-- a tape, and a row of calls made beside it. -/
structure Rs (cap : Nat) (w : World) (D : Nat) (q : Option Addr) (bs : List Nat) (a : Nat) (v : Value) (ys : List Opn) (W : World) : Prop where
  tape : Tp 76 cap W D q bs a
  row : Mo (fun k => k < w.heap.size ∧ ¬ Ft D q bs k) w.heap.size w v ys W
  foot : ∀ j, Ft D q bs j → j < w.heap.size
namespace Rs
variable {cap : Nat} {w W : World} {D : Nat} {q : Option Addr} {bs : List Nat} {a : Nat} {v : Value} {ys : List Opn}
theorem b29 (h : Rs cap w D q bs a v ys W) : Calls Try.prog 40 #[.pointer (some ⟨D, 0, none⟩)] W fun e B => e = .returned (.int .i64 (bt bs a : Int)) ∧ Hid (Rs cap w D q bs (nx bs a) v ys B) :=
  (byte9 h.tape).mono fun e B ⟨he, g⟩ => ⟨he, g.out.1, h.row.keep g.out.2 (fun k hk e => hk.2 (.inl e)) (fun k hk e => by have := h.foot D (.inl rfl); omega), h.foot⟩
theorem b24 (h : Rs cap w D q bs (nx bs a) v ys W) : Calls Try.prog 57 #[.int .i64 (bt bs a : Int), .func (.func 37) #[.pointer (some ⟨D, 0, none⟩)] #[]] W fun e B => e = .returned (opv (ro bs a)) ∧ Hid (Rs cap w D q bs (rp bs a) v ys B) :=
  (fill_tape _ h.tape).mono fun e B ⟨he, g⟩ => ⟨he, g.out.1, h.row.keep g.out.2 (fun k hk => hk.2) (fun k hk hf => by have := h.foot k hf; omega), h.foot⟩
theorem app (h : Rs cap w D q bs a v ys W) (o : Opn) (hl : ys.length ≤ 1000000) (ty : TypeId) :
    ∃ v' w', (Builtin.append_ #[30, 30] ty #[v, .slice (some ⟨W.heap.size, 0, none⟩) 1 1]).run Try.prog (W.alloc (.cells (ocs o) 53)) = .ok v' w' ∧ ((∃ a c, v' = .slice a (ys.length + 1) c) ∧ Hid (Rs cap w D q bs a v' (ys ++ [o]) w')) := by
  obtain ⟨v', w', hr, hs, hM⟩ := push_op h.row (fun k hk => hk.1) o hl ty
  exact ⟨v', w', hr, hs, tp_keep h.tape hM.out.2 fun j hj e => by
    have := (World.ownsRow.lt h.row.1 j e).1
    have := h.foot j hj
    omega, hM.out.1, h.foot⟩
end Rs
set_option maxRecDepth 100000 in
set_option maxHeartbeats 2000000 in
theorem read16 {cap : Nat} {w : World} {D : Nat} {q : Option Addr} {bs : List Nat} {a : Nat} (h : Tp 76 cap w D q bs a) :
    Calls Try.prog 38 #[.pointer (some ⟨D, 0, none⟩)] w fun e B => ∃ p c, e = .returned (.slice p (pn bs a) c) ∧ Hid (Rs cap w D q bs (pz bs a) (.slice p (pn bs a) c) (pl bs a) B) := by
  have T28 : Hid (Calls Try.prog 36 #[.pointer (some ⟨D, 0, none⟩), .int .i64 25] w fun e B => e = .returned (.int .i64 (pn bs a : Int)) ∧ Hid (Rs cap w D q bs (qa bs (nx bs a) 0) (.slice none 0 0) (ql bs (nx bs a) 0) B)) := by
    refine (below11 h 25 (by decide)).mono fun e B ⟨he, g⟩ => ⟨?_, ?_⟩
    · rw [he]
      show Ending.returned (.int .i64 (bv bs a 25)) = _
      unfold bv pn
      rw [if_neg (by decide)]
      rfl
    · have hg := g.out
      rw [show ba bs a 25 = nx bs a from if_neg (by decide)] at hg
      exact ⟨hg.1, ⟨World.ownsRow_nil _ _ _ _, hg.2.mono fun k _ hk e => hk.2 (.inl e), hg.2.size⟩, fun j hj => hj.lt h⟩
  have L := pn_lt bs a
  have STEP : Hid (∀ j p c W, Hid (Rs cap w D q bs (qa bs (nx bs a) j) (.slice p j c) (ql bs (nx bs a) j) W) → Calls Try.prog 40 #[.pointer (some ⟨D, 0, none⟩)] W fun e B => ∃ k : Nat, e = .returned (.int .i64 (k : Int)) ∧
      Hid (Calls Try.prog 57 #[.int .i64 (k : Int), .func (.func 37) #[.pointer (some ⟨D, 0, none⟩)] #[]] B fun e C => ∃ x0 x1 x2 x3 x4, e = .returned (.agg #[.int .i64 x0, .int .i64 x1, .int .i64 x2, .int .i64 x3, .int .i64 x4]) ∧
        Hid (j ≤ 100 → ∀ ty, ∃ v' w', (Builtin.append_ #[30, 30] ty #[.slice p j c, .slice (some ⟨C.heap.size, 0, none⟩) 1 1]).run Try.prog (C.alloc (.cells #[.int .i64 x0, .int .i64 x1, .int .i64 x2, .int .i64 x3, .int .i64 x4] 53)) = .ok v' w' ∧ ((∃ a c, v' = .slice a (j + 1) c) ∧ Hid (Rs cap w D q bs (qa bs (nx bs a) (j + 1)) v' (ql bs (nx bs a) (j + 1)) w'))))) := fun j p c W h =>
    (h.out.b29).mono fun e B ⟨he, hB⟩ => ⟨_, he, (hB.out.b24).mono fun e C ⟨he, hC⟩ => ⟨_, _, _, _, _, he, fun hj ty => by
      have := hC.out.app (ro bs (qa bs (nx bs a) j)) (by rw [ql_len]; omega) ty
      rw [ql_len] at this
      exact this⟩⟩
  have END : Hid (∀ v W, Hid (Rs cap w D q bs (qa bs (nx bs a) (pn bs a)) v (ql bs (nx bs a) (pn bs a)) W) → Hid (Rs cap w D q bs (pz bs a) v (pl bs a) W)) := fun v W h => h
  have mk := fun (W : World) => mk30 #[.pointer (some ⟨D, 0, none⟩)] #[] W
  clear h
  generalize pn bs a = n at *
  go_enter Try.func38, Try.ntmps38
  go_wp2_with fail
  refine T28.out.mono ?_
  rintro e w1 ⟨rfl, h1⟩
  clear T28
  go_wp2_with fail
  go_loopw [3, 6] (fun v i wr => ∃ j : Nat, j ≤ n ∧ i = .int .i64 j ∧ ∃ p c, v = .slice p j c ∧ Hid (Rs cap w D q bs (qa bs (nx bs a) j) (.slice p j c) (ql bs (nx bs a) j) wr)) (fun _ i _ => n - (intOf i).toNat)
  case atStart => exact ⟨0, by omega, rfl, none, 0, rfl, h1⟩
  case round =>
    obtain ⟨j, hj, rfl, p, c, rfl, hR⟩ := hrel
    clear h1
    by_cases hlt : j < n
    · have hjn : (j : Int) < (n : Int) := by omega
      have T := Lib.hid (STEP.out j p c _ hR)
      clear STEP END hR
      go_wp2_with fail
      refine T.out.mono ?_
      rintro e w2 ⟨k, rfl, T2⟩
      clear T
      go_wp2_with fail
      refine T2.out.mono ?_
      rintro e w3 ⟨x0, x1, x2, x3, x4, rfl, A⟩
      clear T2
      go_wp2_with (at_builtin; refine app_step _ rfl _ _ 30 rfl _ _ rfl rfl (A.out (by omega) _) ?_; rintro v4 w4 ⟨⟨a4, c4, rfl⟩, q4⟩)
      go_roundw
      case rel => exact ⟨j + 1, by omega, by simp, _, _, rfl, q4⟩
      case measure => simp [intOf]; omega
    · obtain rfl : j = n := by omega
      have F := Lib.hid (END.out _ _ hR)
      clear STEP END hR
      go_wp2
      go_ret
      exact ⟨_, _, rfl, F.out⟩
end Go.Proofs.Ytfhcgildokdppaa
