/-
  numbers of package prog by its contract: a call's own numbers, in a row of the call's own.
-/
import Derived.Test.YtfhcgildokdppaaOw
namespace Go.Proofs.Ytfhcgildokdppaa
open Go.RowKit Go.Shelf tp
attribute [local go_sem] Oper.semAt_some
attribute [local go_sem] wide_fn wide_depth
abbrev opv (o : Opn) : Value := .agg #[.int .i64 o.k, .int .i64 o.key, .int .i64 o.val, .int .i64 o.cost, .int .i64 o.ttl]
abbrev ocs (o : Opn) : Array Value := #[.int .i64 o.k, .int .i64 o.key, .int .i64 o.val, .int .i64 o.cost, .int .i64 o.ttl]
theorem info_i : (Try.prog.info? 3).map (fun i => (i.zero, i.size, i.bytes)) = some (some (.int .i64 0), 1, 8) := by kernel_rfl
/-- ints appended to a row of one's own. -/
theorem app_i {W : World} {base : Nat} {v0 : Value} {i : Nat} {ys zs : List Int} {a : Option Addr} {cap : Nat} (hown : W.ownsRow base 3 1 v0 i (ys.map eI)) (hu : La eI W a zs) (hn : a = none → zs = [] ∧ cap = 0) (hi : i + zs.length ≤ 1000000000000) (hb : base ≤ W.heap.size) (ty : TypeId) :
    ∃ v' w', (Builtin.append_ #[25, 25] ty #[v0, .slice a zs.length cap]).run Try.prog W = .ok v' w' ∧ w'.ownsRow base 3 1 v' (i + zs.length) ((ys ++ zs).map eI) ∧ W.grownBy w' v0.ownBlock := by
  obtain ⟨i0, hi0, hz0, hz1, hz2⟩ := info_parts info_i
  have hmax : maxLen = 9223372036854775807 := by decide
  cases a with
  | none =>
    obtain ⟨rfl, rfl⟩ := hn rfl
    exact ⟨v0, W, run_append_owned_none W base 25 ty 3 i0 1 Try.underlying25 hi0 v0 i _ hown, by simpa using hown, World.grownBy.refl _ _⟩
  | some x =>
    obtain ⟨v', w1, hr, hown', hgrow, _⟩ := run_append_own (P := Try.prog) W base 25 ty 3 i0 (.int .i64 0) 1 8 Try.underlying25 hi0 hz0 hz1 hz2 rfl (by decide) v0 i _ hown x zs.length cap (zs.map eI) (by simp) (fun j u hu' => by
      rw [List.getElem?_map, Option.map_eq_some_iff] at hu'
      obtain ⟨y, hy, rfl⟩ := hu'
      obtain ⟨hj, rfl⟩ := List.getElem?_eq_some_iff.1 hy
      obtain ⟨b, o, hx, hcell⟩ := hu (by omega)
      obtain rfl := Option.some.inj hx
      rw [show (⟨b, o, none⟩ : Addr).add j = ⟨b, o + j, none⟩ by simp [Addr.add]]
      exact hcell j hj) (fun u hu => by obtain ⟨x, _, rfl⟩ := List.mem_map.1 hu; rfl) (by omega) (by omega) hb
    exact ⟨v', w1, hr, by rw [List.map_append]; exact hown', hgrow⟩
/-- a row of ints of one's own (its block at base or above), made so far; what lay below base stands. -/
def Mi (base : Nat) (w : World) (v : Value) (ys : List Int) (W : World) : Prop := W.ownsRow base 3 1 v ys.length (ys.map eI) ∧ Keep (fun k => k < base) w W ∧ base ≤ w.heap.size
theorem Mi.size {base : Nat} {w W : World} {v : Value} {ys : List Int} (h : Mi base w v ys W) : base ≤ W.heap.size := Nat.le_trans h.2.2 h.2.1.size
theorem Mi.sl {base : Nat} {w W : World} {v : Value} {ys : List Int} (h : Mi base w v ys W) : ∃ a c, v = .slice a ys.length c := tp.own_slice h.1
theorem Mi.keep {base : Nat} {w W B : World} {v : Value} {ys : List Int} (h : Mi base w v ys W) {K : Nat → Prop} (hk : Keep K W B) (h1 : ∀ k, k < base → K k) (h2 : ∀ k, v.ownBlock = some k → K k) : Mi base w v ys B :=
  ⟨hk.own h.1 h2, h.2.1.trans (hk.mono fun k _ hK => h1 k hK), h.2.2⟩
/-- ints appended that stand in a literal. -/
theorem push_ints {base : Nat} {w W : World} {v : Value} {ys : List Int} (h : Mi base w v ys W) (zs : List Int) (m : Nat) (hm : zs.length = m) (c : Array Value) (hc : c = (zs.map eI).toArray) (hl : ys.length + m ≤ 1000000000000) (ty : TypeId) :
    ∃ v' w', (Builtin.append_ #[25, 25] ty #[v, .slice (some ⟨W.heap.size, 0, none⟩) m m]).run Try.prog (W.alloc (.cells c 3)) = .ok v' w' ∧ ((∃ a c, v' = .slice a (ys.length + m) c) ∧ Hid (Mi base w v' (ys ++ zs) w') ∧ Hid (Keep (fun k => ¬ v.ownBlock = some k) W w')) := by
  subst hm
  obtain ⟨v', w', hr, h1, h2⟩ := app_i (zs := zs) (a := some ⟨W.heap.size, 0, none⟩) (cap := zs.length) (h.1.alloc (.cells c 3)) (la_lit' W 3 c zs hc) (by simp) hl (by have := h.size; simp; omega) ty
  have hk : Keep (fun k => ¬ v.ownBlock = some k) W w' := (Keep.alloc _ _ _).trans (Keep.grown h2 fun j hj h' => h' hj)
  refine ⟨v', w', hr, tp.own_slice h1, ⟨by rw [List.length_append]; exact h1, h.2.1.trans (hk.mono fun j _ hj h' => ?_), h.2.2⟩, hk⟩
  have := (World.ownsRow.lt h.1 j h').1
  omega
theorem heap_old {w : World} {o o' : Obj} {k : Nat} (h : w.heap[k]? = some o) : (w.alloc o').heap[k]? = some o := (Below.heap_alloc _ _ _ (heap_lt h)).trans h
/-- a row in a box. -/
structure Bx (L N base : Nat) (w : World) (ys : List Int) (A : World) : Prop where
  ex : ∃ v, A.heap[L]? = some (.cells #[v] 25 (0, 0)) ∧ A.ownsRow base 3 1 v ys.length (ys.map eI)
  keep : Keep (fun k => k < N ∧ k ≠ L) w A
theorem Bx.of_keep {L N base : Nat} {w A B : World} {ys : List Int} (h : Bx L N base w ys A) (hk : Keep (fun _ => True) A B) : Bx L N base w ys B := by
  obtain ⟨⟨v, h1, h2⟩, h3⟩ := h
  exact ⟨⟨v, hk.heap h1 trivial, hk.own h2 fun _ _ => trivial⟩, h3.trans (hk.mono fun _ _ _ => trivial)⟩
theorem Bx.loop {L N base : Nat} {w A : World} {ys : List Int} (h : Bx L N base w ys A) {l : Nat} {o o' : Loop} (hl : N ≤ l) (ho : A.heap[l]? = some (.loop o)) : Bx L N base w ys (A.putObj l (.loop o')) := by
  obtain ⟨⟨v, h1, h2⟩, h3⟩ := h
  refine ⟨⟨v, (World.putObj_heap_other fun e => ?_).trans h1, ?_⟩, h3.trans (Keep.putObj _ _ _ fun h => by omega)⟩
  · subst e
    rw [ho] at h1
    cases h1
  · exact ownsRow_putObj h2 (.loop o') ho rfl
/-- an append at an operation whose run equation is there. -/
theorem app_in {F : Fence} {n : Nat} {P : Program} {w : World} {o : Oper} {a : Act} {K : Act → World → Prop} {Q : Exit → Act → World → Prop} (s x : Operand) (t : TypeId)
    (hop : o.op = Op.call { callee := Callee.builtin Builtin.append, args := #[s, x], argTypes := #[t, t] }) (v u : Value) {v' : Value} {w' : World} (hs : a.eval s = v) (hx : a.eval x = u)
    (hrun : (Builtin.append_ #[t, t] o.type #[v, u]).run P w = .ok v' w') (hK : K (a.put o.dst v') w') : Oper.wpIn F n P o a w K Q := by
  unfold Oper.wpIn
  refine ⟨?_, ?_⟩
  · simp [Oper.about, hop, resolve, Target.leads, Sem.run_pure]
  · rw [Oper.semAt_plain F _ _ (by rw [hop]; intro c hc'; cases hc')]
    simp [execOp, hop, resolve, invoke, builtin, hs, hx, hrun, Result.andThen]
    exact hK
/-- the number at a place of its own. -/
theorem own_num (o : Opn) (i f : Nat) (h : (pls o.k)[i]? = some f) : ∃ x, (nums o)[i]? = some x ∧ (ocs o)[f]? = some (.int .i64 x) ∧ f < 5 := by
  obtain ⟨k, a, b, c, d⟩ := o
  rcases kinds k with (rfl | rfl) | rfl | rfl | hr
  · match i, h with
    | 0, h => cases h; exact ⟨_, rfl, rfl, by decide⟩
  · match i, h with
    | 0, h => cases h; exact ⟨_, rfl, rfl, by decide⟩
  · match i, h with
    | 0, h => cases h; exact ⟨_, rfl, rfl, by decide⟩
    | 1, h => cases h; exact ⟨_, rfl, rfl, by decide⟩
    | 2, h => cases h; exact ⟨_, rfl, rfl, by decide⟩
    | 3, h => cases h; exact ⟨_, rfl, rfl, by decide⟩
  · match i, h with
    | 0, h => cases h; exact ⟨_, rfl, rfl, by decide⟩
  · have e : pls k = [] := by unfold pls; rw [if_neg (by omega), if_neg (by omega), if_neg (by omega)]
    rw [e] at h
    simp at h
theorem take_snoc {xs : List Int} {i : Nat} {x : Int} (h : xs[i]? = some x) : xs.take (i + 1) = xs.take i ++ [x] := by
  obtain ⟨hi, rfl⟩ := List.getElem?_eq_some_iff.1 h
  exact List.take_succ_eq_append_getElem hi
set_option maxRecDepth 100000 in
set_option maxHeartbeats 2000000 in
theorem numbers23 (o : Opn) (w : World) : Calls Try.prog 60 #[opv o] w fun e B => ∃ q c, e = .returned (.slice q (nums o).length c) ∧ Hid (Mi w.heap.size w (.slice q (nums o).length c) (nums o) B) := by
  refine callsIn_wide (n := 0).1 (callsIn_of_wp_marks Try.func60 rfl trivial ?_ rfl)
  simp only [Try.ntmps60, List.size_toArray, List.length_cons, List.length_nil, Nat.reduceAdd, Nat.reduceSub, Array.replicate_succ, Array.replicate_zero, List.push_toArray, List.append_toArray, List.nil_append, List.cons_append]
  obtain ⟨S, hS⟩ : ∃ S, w.heap.size = S := ⟨_, rfl⟩
  gi_wp2_with (gi_at_call 67; refine (callsIn_wide (n := 0).2 (own36 _ _)).mono ?_; rintro e w1 ⟨rfl, rfl⟩)
  obtain ⟨W, hW⟩ : ∃ W, ((w.alloc (.cells (ocs o) 53)).alloc (.cells #[.slice none 0 0] 25)).alloc (.cells #[.pointer (some ⟨S, 0, none⟩)] 88) = W := ⟨_, rfl⟩
  have kW : Keep (fun _ => True) w W := by rw [← hW]; exact ((Keep.alloc _ _ _).trans (Keep.alloc _ _ _)).trans (Keep.alloc _ _ _)
  have hs : W.heap.size = S + 3 := by rw [← hW, ← hS]; simp
  have hO : W.heap[S]? = some (.cells (ocs o) 53 (0, 0)) := by rw [← hW, ← hS]; exact heap_old (heap_old (World.alloc_heap_new _ _))
  have hL : W.heap[S + 1]? = some (.cells #[.slice none 0 0] 25 (0, 0)) := by rw [← hW, ← hS]; exact heap_old (heap_next (by simp) _)
  have hX : W.heap[S + 1 + 1]? = some (.cells #[.pointer (some ⟨S, 0, none⟩)] 88 (0, 0)) := by rw [← hW, ← hS]; exact heap_next (by simp) _
  show Code.wpIn _ _ _ _ _ _ (((w.alloc (.cells (ocs o) 53)).alloc (.cells #[.slice none 0 0] 25)).alloc (.cells #[.pointer (some ⟨S, 0, none⟩)] 88))
  rw [hW]
  clear hW
  have B0 : Bx (S + 1) (S + 3) (S + 5) W ((nums o).take 0) W := ⟨⟨_, hL, World.ownsRow_nil _ _ _ _⟩, Keep.refl _ _⟩
  have HO := Lib.hid hO
  apply range3_law (gf := 69) (lb := #[.pointer (some ⟨S + 1 + 1, 0, none⟩)]) (xs := pls o.k) (N := fun k => k = S + 1 + 1) (encs := plc S)
    (hg := rfl) (eg := enters_of Try.func69 (by kernel_rfl) rfl)
    (hseq := fun B hB => own1_tells (k := o.k) (by rw [cell_of (hB.heap hX trivial)]; rfl) (by rw [cell_of (hB.heap hO trivial)]; rfl))
    (hN := fun k hk => by omega) (hps := fun _ => rfl)
    (I := fun i A => Bx (S + 1) (S + 3) (S + 5) W ((nums o).take i) A) (hq := fun i A q h => h.of_keep (Keep.drewN _ _ _))
    (hl := fun i A l o o' h1 h2 h3 => h3.loop (by omega) h2)
    (hk := fun i A h => h.keep.mono fun k _ hk => by omega)
    (h0 := fun B hB => B0.of_keep hB)
  case hassign =>
    intro l i x A K hx hK
    gi_wp2
    exact hK
  case hbody =>
    rintro l i f A hf hI hsz
    obtain ⟨x, hx, hc, hf5⟩ := own_num o i f hf
    have hi4 : ((nums o).take i).length ≤ 4 := by
      have := pls_len o.k
      rw [← nums_len] at this
      rw [List.length_take]
      omega
    have hO' : A.heap[S]? = some (.cells (ocs o) 53 (0, 0)) := hI.keep.heap HO.out ⟨by omega, by omega⟩
    obtain ⟨⟨v, hv, hr⟩, hk⟩ := hI
    obtain ⟨a, c, rfl⟩ := tp.own_slice hr
    have hM : Mi (S + 5) A.drew (.slice a ((nums o).take i).length c) ((nums o).take i) A.drew := ⟨(Keep.drew (fun _ => True) A).own hr fun _ _ => trivial, Keep.refl _ _, by show S + 5 ≤ A.heap.size; omega⟩
    obtain ⟨v2, w2, hrun, ⟨a2, c2, rfl⟩, hM2, hk2⟩ := push_ints hM [x] 1 rfl #[.int .i64 x] rfl (by omega) 25
    have hlt : ∀ k, (Value.slice a ((nums o).take i).length c).ownBlock = some k → S + 5 ≤ k := fun k hk' => (World.ownsRow.lt hr k hk').1
    have hv2 : w2.heap[S + 1]? = some (.cells #[.slice a ((nums o).take i).length c] 25 (0, 0)) := hk2.out.heap (A := A.drew) hv (fun h => by have := hlt _ h; omega)
    have d0 : A.drew.cell? ⟨S + 1, 0, none⟩ = some (.slice a ((nums o).take i).length c) := cell_of (w := A.drew) hv 0
    have d3 : (A.alloc (.cells #[.int .i64 x] 3)).cell? ⟨S + 1, 0, none⟩ = some (.slice a ((nums o).take i).length c) := cell_of (heap_old hv) 0
    have d1 : A.drew.cell? ⟨S, f, none⟩ = some (.int .i64 x) := (cell_of (w := A.drew) hO' f).trans hc
    have d2 : w2.cell? ⟨S + 1, 0, none⟩ = some (.slice a ((nums o).take i).length c) := cell_of hv2 0
    have f2 := frozen_of hv2 0
    have F : Hid (∀ v', v' = .slice a2 (((nums o).take i).length + 1) c2 → Keep (fun k => k = W.heap.size ∨ k = W.heap.size + 1) A (w2.setCell ⟨S + 1, 0, none⟩ v') ∧ Bx (S + 1) (S + 3) (S + 5) W ((nums o).take (i + 1)) (w2.setCell ⟨S + 1, 0, none⟩ v')) := fun v' e => by
      subst e
      have k1 : Keep (fun k => k ≠ S + 1) w2 (w2.setCell ⟨S + 1, 0, none⟩ (.slice a2 (((nums o).take i).length + 1) c2)) := Keep.setCell _ _ _ (by simp)
      have k2 : Keep (fun k => ¬ (Value.slice a ((nums o).take i).length c).ownBlock = some k) A w2 := (Keep.drew _ A).trans hk2.out
      have hr2 := hM2.out.1
      have hlen : ((nums o).take i ++ [x]).length = ((nums o).take i).length + 1 := by simp
      rw [hlen] at hr2
      have hlt2 : ∀ k, (Value.slice a2 (((nums o).take i).length + 1) c2).ownBlock = some k → S + 5 ≤ k := fun k hk' => (World.ownsRow.lt hr2 k hk').1
      have e2 : (nums o).take (i + 1) = (nums o).take i ++ [x] := take_snoc hx
      refine ⟨(k2.mono fun k _ hk' h => ?_).trans (k1.mono fun k _ hk' h => ?_), ⟨⟨_, heap_set hv2 0 _, ?_⟩, ?_⟩⟩
      · have := hlt _ h
        omega
      · omega
      · rw [e2, hlen]
        exact k1.own hr2 fun k hk' e => by have := hlt2 _ hk'; omega
      · exact hk.trans ((k2.mono fun k _ hk' h => by have := hlt _ h; omega).trans (k1.mono fun k _ hk' => hk'.2))
    have hmx : Try.prog.follows .mixedOrders = true := by kernel_rfl
    clear hM hM2 hk2 hv hv2 hr hk hO' hf hx hc hf5 hsz B0 hX hL hO kW hlt hi4
    generalize ((nums o).take i).length = n at *
    gi_wp2
    refine wpIn_region_any hmx ?_
    change wpAnyIn _ _ _ _ _ _ _ _ _ (World.drew _)
    refine wpAnyIn_ready (rs := [0, 1]) (by kernel_rfl) (by simp) ?_
    refine (BigFrame.allReadyIn_want (i := 0) rfl (by kernel_rfl) (fun K hK => ?s_0) (BigFrame.allReadyIn_want (i := 1) rfl (by kernel_rfl) (fun K hK => ?s_1) AllReadyIn.nil))
    case' s_0 =>
      go_simp
      refine hK _ _ ?_
      clear hK K
      refine wpAnyIn_ready (rs := [1]) (by kernel_rfl) (by simp) ?_
      refine (BigFrame.allReadyIn_want (i := 1) rfl (by kernel_rfl) (fun K hK => ?s0_1) AllReadyIn.nil)
      case' s0_1 =>
        go_simp
        refine hK _ _ ?_
        clear hK K
        refine wpAnyIn_ready (rs := [2]) (by kernel_rfl) (by simp) ?_
        refine (BigFrame.allReadyIn_want (i := 2) rfl (by kernel_rfl) (fun K hK => ?s01_2) AllReadyIn.nil)
        case' s01_2 =>
          go_simp
          refine hK _ _ ?_
          clear hK K
          refine wpAnyIn_ready (rs := [3]) (by kernel_rfl) (by simp) ?_
          refine (BigFrame.allReadyIn_want (i := 3) rfl (by kernel_rfl) (fun K hK => ?s012_3) AllReadyIn.nil)
          case' s012_3 =>
            go_simp
            refine hK _ _ ?_
            clear hK K
            refine wpAnyIn_ready (rs := [4]) (by kernel_rfl) (by simp) ?_
            refine (BigFrame.allReadyIn_want (i := 4) rfl (by kernel_rfl) (fun K hK => ?s0123_4) AllReadyIn.nil)
            case' s0123_4 =>
              go_simp
              refine hK _ _ ?_
              clear hK K
    case' s_1 =>
      go_simp
      refine hK _ _ ?_
      clear hK K
      refine wpAnyIn_ready (rs := [0, 2]) (by kernel_rfl) (by simp) ?_
      refine (BigFrame.allReadyIn_want (i := 0) rfl (by kernel_rfl) (fun K hK => ?s1_0) (BigFrame.allReadyIn_want (i := 2) rfl (by kernel_rfl) (fun K hK => ?s1_2) AllReadyIn.nil))
      case' s1_0 =>
        go_simp
        refine hK _ _ ?_
        clear hK K
        refine wpAnyIn_ready (rs := [2]) (by kernel_rfl) (by simp) ?_
        refine (BigFrame.allReadyIn_want (i := 2) rfl (by kernel_rfl) (fun K hK => ?s01_2) AllReadyIn.nil)
        case' s01_2 =>
          go_simp
          refine hK _ _ ?_
          clear hK K
          refine wpAnyIn_ready (rs := [3]) (by kernel_rfl) (by simp) ?_
          refine (BigFrame.allReadyIn_want (i := 3) rfl (by kernel_rfl) (fun K hK => ?s012_3) AllReadyIn.nil)
          case' s012_3 =>
            go_simp
            refine hK _ _ ?_
            clear hK K
            refine wpAnyIn_ready (rs := [4]) (by kernel_rfl) (by simp) ?_
            refine (BigFrame.allReadyIn_want (i := 4) rfl (by kernel_rfl) (fun K hK => ?s0123_4) AllReadyIn.nil)
            case' s0123_4 =>
              go_simp
              refine hK _ _ ?_
              clear hK K
      case' s1_2 =>
        go_simp
        refine hK _ _ ?_
        clear hK K
        refine wpAnyIn_ready (rs := [0, 3]) (by kernel_rfl) (by simp) ?_
        refine (BigFrame.allReadyIn_want (i := 0) rfl (by kernel_rfl) (fun K hK => ?s12_0) (BigFrame.allReadyIn_want (i := 3) rfl (by kernel_rfl) (fun K hK => ?s12_3) AllReadyIn.nil))
        case' s12_0 =>
          go_simp
          refine hK _ _ ?_
          clear hK K
          refine wpAnyIn_ready (rs := [3]) (by kernel_rfl) (by simp) ?_
          refine (BigFrame.allReadyIn_want (i := 3) rfl (by kernel_rfl) (fun K hK => ?s012_3) AllReadyIn.nil)
          case' s012_3 =>
            go_simp
            refine hK _ _ ?_
            clear hK K
            refine wpAnyIn_ready (rs := [4]) (by kernel_rfl) (by simp) ?_
            refine (BigFrame.allReadyIn_want (i := 4) rfl (by kernel_rfl) (fun K hK => ?s0123_4) AllReadyIn.nil)
            case' s0123_4 =>
              go_simp
              refine hK _ _ ?_
              clear hK K
        case' s12_3 =>
          go_simp
          refine hK _ _ ?_
          clear hK K
          refine wpAnyIn_ready (rs := [0, 4]) (by kernel_rfl) (by simp) ?_
          refine (BigFrame.allReadyIn_want (i := 0) rfl (by kernel_rfl) (fun K hK => ?s123_0) (BigFrame.allReadyIn_want (i := 4) rfl (by kernel_rfl) (fun K hK => ?s123_4) AllReadyIn.nil))
          case' s123_0 =>
            go_simp
            refine hK _ _ ?_
            clear hK K
            refine wpAnyIn_ready (rs := [4]) (by kernel_rfl) (by simp) ?_
            refine (BigFrame.allReadyIn_want (i := 4) rfl (by kernel_rfl) (fun K hK => ?s0123_4) AllReadyIn.nil)
            case' s0123_4 =>
              go_simp
              refine hK _ _ ?_
              clear hK K
          case' s123_4 =>
            go_simp
            refine hK _ _ ?_
            clear hK K
            refine wpAnyIn_ready (rs := [0]) (by kernel_rfl) (by simp) ?_
            refine (BigFrame.allReadyIn_want (i := 0) rfl (by kernel_rfl) (fun K hK => ?s1234_0) AllReadyIn.nil)
            case' s1234_0 =>
              go_simp
              refine hK _ _ ?_
              clear hK K
    all_goals (
      refine wpAnyIn_ready (rs := [5]) (by kernel_rfl) (by simp) (BigFrame.allReadyIn_want (i := 5) rfl (by kernel_rfl) (fun K hK => ?_) AllReadyIn.nil)
      refine app_in _ _ 25 rfl _ _ rfl rfl hrun ?_
      refine hK _ _ ?_
      clear hK K hrun d0 d1 d3
      refine wpAnyIn_ready (rs := [6]) (by kernel_rfl) (by simp) (BigFrame.allReadyIn_want (i := 6) rfl (by kernel_rfl) (fun K hK => ?_) AllReadyIn.nil)
      go_simp
      refine hK _ _ ?_
      clear hK K
      refine wpAnyIn_done (by kernel_rfl) ?_ _
      exact F.out _ rfl)
  case hdone =>
    intro A hI hDe
    obtain ⟨⟨v, hv, hr⟩, hk⟩ := hI
    obtain ⟨a, c, rfl⟩ := tp.own_slice hr
    have d0 : A.cell? ⟨S + 1, 0, none⟩ = some (.slice a ((nums o).take (pls o.k).length).length c) := cell_of hv 0
    have hn : (nums o).take (pls o.k).length = nums o := by rw [← nums_len, List.take_length]
    have F : Hid (∀ B, B = A.putObj W.heap.size (.deferred none) → Mi S w (.slice a ((nums o).take (pls o.k).length).length c) (nums o) B) := fun B e => by
      subst e
      rw [hn] at hr ⊢
      have h4 := ownsRow_putObj hr (.deferred none) hDe rfl
      have k1 : Keep (fun k => k < S) A (A.putObj W.heap.size (.deferred none)) := Keep.putObj _ _ _ (by omega)
      refine ⟨?_, (kW.mono fun _ _ _ => trivial).trans ((hk.mono fun k _ hk' => by omega).trans k1), by omega⟩
      have h5 := World.ownsRow.lt h4
      exact ⟨h4.1, by
        rcases h4.2 with h | ⟨g, cap, cur, h6, h7, h8⟩
        · exact .inl h
        · exact .inr ⟨g, cap, cur, h6, by omega, h8⟩⟩
    have HL : Hid ((nums o).length = ((nums o).take (pls o.k).length).length) := by rw [hn]; rfl
    clear hv hr hk hn B0 hX hL hO kW
    generalize ((nums o).take (pls o.k).length).length = n at *
    gi_wp2
    refine ⟨by simp, .inl ⟨_, _, rfl, run_takeDeferred hDe, ?_⟩⟩
    refine ⟨_, results_tmp rfl _ _ _, a, c, by rw [HL.out]; rfl, ?_⟩
    rw [hS, HL.out]
    exact F.out _ rfl
end Go.Proofs.Ytfhcgildokdppaa
