/-
  tell of package rank (keys and things are ints) by its contract: keys and things in order, but for the first ones, as long as one asks.
-/
import Derived.Test.YtnhpcjiieagjnaaDoorRkAsk
import Derived.Test.YtnhpcjiieagjnaaDoorRkRange
import Derived.Shelf.Abstract
import Derived.Shelf.RegionOpen
import Derived.OwnWalkIn
import Derived.TacticsInMore
import Derived.LoopNIn
import Derived.LoopIn
namespace Go.Proofs.YtnhpcjiieagjnaaDoor.rk
open Go.RowKit Go.Shelf
open Tr (node)
attribute [local go_sem] Oper.semAt_some
theorem wide_fn (k : Nat) : Fence.wide.fn k = True := rfl
theorem wide_depth : Fence.wide.depth = none := rfl
attribute [local go_sem] wide_fn wide_depth
/-- what a call of yield owes: J goes on, or Jx. -/
def Owes (l : Nat) (J Jx : Nat → World → Prop) (xs : List (Int × Kn)) : Prop := ∀ i A x, xs[i]? = some x → J i A → YieldsAt Tryd.prog l #[.int .u64 x.1, kn x.2] A fun e B => ∃ b : Bool, e = .returned (.bool b) ∧ Hid ((b = true ∧ J (i + 1) B) ∨ (b = false ∧ Jx (i + 1) B))
/-- how one has told xs. -/
def Said (J Jx : Nat → World → Prop) (xs : List (Int × Kn)) (e : Ending) (B : World) : Prop := ∃ b : Bool, e = .returned (.bool b) ∧ Hid ((b = true ∧ J xs.length B) ∨ (b = false ∧ ∃ i, 0 < i ∧ i ≤ xs.length ∧ Jx i B))
/-- tell of a tree, of any state that one goes through. -/
def TellsOf (l : Nat) (t : Tr) : Prop := ∀ (first : Nat) (J Jx : Nat → World → Prop) (W : World), first < 1000000000000000000 → (∀ i A q, J i A → J i (A.drewN q)) → (∀ i A, J i A → t.Lies A) → Owes l J Jx (t.list.drop first) → J 0 W →
  Calls Tryd.prog 94 #[.pointer t.addr, .int .i64 (first : Int), .func (.yield l) #[] #[]] W (Said J Jx (t.list.drop first))
theorem tell_short (l : Nat) (t : Tr) (first : Nat) (W : World) (h : t.Lies W) (hn : t.list.length ≤ first) :
    Calls Tryd.prog 94 #[.pointer t.addr, .int .i64 (first : Int), .func (.yield l) #[] #[]] W fun e B => e = .returned (.bool true) ∧ B = W := by
  have C := Lib.hid (count_any h)
  have hn' : (t.list.length : Int) ≤ (first : Int) := by omega
  clear h hn
  generalize t.list.length = n at *
  generalize t.addr = p at *
  refine callsIn_wide (n := 0).1 (callsIn_of_wp Tryd.func94 rfl trivial ?_ rfl)
  simp only [Tryd.ntmps94, List.size_toArray, List.length_cons, List.length_nil, Nat.reduceAdd, Nat.reduceSub, Array.replicate_succ, Array.replicate_zero, List.push_toArray, List.append_toArray, List.nil_append, List.cons_append]
  gi_wp2_with fail
  refine (callsIn_wide.2 C.out).mono ?_
  rintro e w1 ⟨rfl, e1⟩
  obtain rfl : W = w1 := e1.symm
  gi_wp2
  go_ret
  exact ⟨rfl, rfl⟩
theorem drop_parts (xs ys : List (Int × Kn)) (e : Int × Kn) (f : Nat) : (xs ++ e :: ys).drop f = xs.drop f ++ (if f ≤ xs.length then [e] else []) ++ ys.drop (f - xs.length - 1) := by
  rw [List.drop_append, List.append_assoc]
  congr 1
  by_cases h : f ≤ xs.length
  · rw [if_pos h, show f - xs.length = 0 by omega]; simp
  · rw [if_neg h, List.nil_append]
    obtain ⟨m, hm⟩ : ∃ m, f - xs.length = m + 1 := ⟨f - xs.length - 1, by omega⟩
    rw [hm]; simp
section
variable {l : Nat} {J Jx : Nat → World → Prop} {xs ys : List (Int × Kn)}
theorem Owes.left (h : Owes l J Jx (xs ++ ys)) : Owes l J Jx xs := fun i A x hx hj => h i A x (by rw [List.getElem?_append_left (List.getElem?_eq_some_iff.1 hx).1]; exact hx) hj
theorem Owes.right (h : Owes l J Jx (xs ++ ys)) : Owes l (fun i => J (xs.length + i)) (fun i => Jx (xs.length + i)) ys := fun i A x hx hj => h (xs.length + i) A x (by rw [List.getElem?_append_right (by omega)]; simpa using hx) hj
theorem Said.right {e : Ending} {B : World} (h : Said (fun i => J (xs.length + i)) (fun i => Jx (xs.length + i)) ys e B) : Said J Jx (xs ++ ys) e B := by
  obtain ⟨b, he, ho⟩ := h
  refine ⟨b, he, ?_⟩
  rcases ho.out with ⟨hb, hj⟩ | ⟨hb, i, h1, h2, h3⟩
  · exact .inl ⟨hb, by rw [List.length_append]; exact hj⟩
  · exact .inr ⟨hb, xs.length + i, by omega, by rw [List.length_append]; omega, h3⟩
theorem Said.stop {B : World} (h : ∃ i, 0 < i ∧ i ≤ xs.length ∧ Jx i B) : Said J Jx (xs ++ ys) (.returned (.bool false)) B := by
  obtain ⟨i, h1, h2, h3⟩ := h
  exact ⟨false, rfl, .inr ⟨rfl, i, h1, by rw [List.length_append]; omega, h3⟩⟩
end
theorem take_at {F : Fence} {n : Nat} {P : Program} {ops : Array Oper} {Q : Exit → Act → World → Prop} {md : Region.Mode} {i d : Nat} {oi : Oper} {v : Value} {fuel : Nat} {listed : Array Bool} {a : Act} {w : World} (hro : F.round = none) (hi : ops[i]? = some oi) (hd : oi.dst = some d)
    (hs : Region.noSelect ops = true) (hf : Region.free md ops listed i = true) (hr : (Region.ready md ops listed).contains i = true)
    (hQ : ∀ c a w, Q (.panic c) (a.put oi.dst v) w → Q (.panic c) a w) (hy : YieldsFenced P ops oi v a)
    (h : wpAnyIn F n P md ops Q fuel (listed.setIfInBounds i true) { a with tmps := a.tmps.setIfInBounds d v } w) : wpAnyIn F n P md ops Q (fuel + 1) listed a w :=
  wpAnyIn_take hro hi hs hf hr hQ hy (by rw [hd]; exact h)
set_option maxRecDepth 100000 in
set_option maxHeartbeats 4000000 in
theorem tell_node (l b : Nat) (k : Int) (v : Kn) (tl tr : Tr) (hlen : (node b k v tl tr).list.length < 1000000000000000000) (hl : TellsOf l tl) (hr : TellsOf l tr) : TellsOf l (node b k v tl tr) := by
  intro first J Jx W hf hJ hL hY h0
  by_cases hn : (node b k v tl tr).list.length ≤ first
  · refine (tell_short l _ first W (hL _ _ h0) hn).mono ?_
    rintro e B ⟨rfl, rfl⟩
    exact ⟨true, rfl, .inl ⟨rfl, by rw [List.drop_eq_nil_of_le hn]; exact h0⟩⟩
  have Z := hL _ _ h0
  rw [Tr.list_node, drop_parts] at hY ⊢
  obtain ⟨zs, hzs⟩ : ∃ zs, tl.list.drop first ++ (if first ≤ tl.list.length then [(k, v)] else []) ++ tr.list.drop (first - tl.list.length - 1) = zs := ⟨_, rfl⟩
  have hc : Hid (Calls Tryd.prog 65 #[.pointer (some ⟨b, 0, none⟩)] W fun e w' => e = .returned (.int .i64 ((node b k v tl tr).list.length : Int)) ∧ w' = W) := count_any Z
  have hc2 := Lib.hid (count_any Z.2.1)
  have c2 := Z.c2
  have A1 : Hid (Calls Tryd.prog 94 #[.pointer tl.addr, .int .i64 (first : Int), .func (.yield l) #[] #[]] W (Said J Jx (tl.list.drop first))) := hl first J Jx W hf hJ (fun i A h => (hL i A h).2.1) (Owes.left (Owes.left hY)) h0
  have hfn : (first : Int) < ((node b k v tl tr).list.length : Int) := by omega
  have hlen' : (node b k v tl tr).list.length < 1000000000000000000 := hlen
  obtain ⟨m, hm⟩ : ∃ m, (node b k v tl tr).list.length = m := ⟨_, rfl⟩
  have hlm : tl.list.length < m := by rw [← hm, Tr.len_node]; omega
  rw [hm] at hc hfn hlen'
  have D : Hid (∀ i A, J i A → A.cell? ⟨b, 0, none⟩ = some (.int .u64 k) ∧ A.cell? ⟨b, 1, none⟩ = some (.int .i64 (v.n : Int)) ∧ A.cell? ⟨b, 2, none⟩ = some (.bool v.c) ∧ A.cell? ⟨b, 4, none⟩ = some (.pointer tr.addr)) := fun i A h => ⟨(hL i A h).c0, (hL i A h).c1, (hL i A h).c1b, (hL i A h).c3⟩
  have S1 : Hid (∀ B, (∃ i, 0 < i ∧ i ≤ (tl.list.drop first).length ∧ Jx i B) → Said J Jx zs (.returned (.bool false)) B) := fun B h => by
    rw [← hzs, List.append_assoc]; exact Said.stop h
  have R1 : Hid (∀ f2 B, f2 = first - tl.list.length - 1 → J ((tl.list.drop first) ++ (if first ≤ tl.list.length then [(k, v)] else [])).length B → Calls Tryd.prog 94 #[.pointer tr.addr, .int .i64 (f2 : Int), .func (.yield l) #[] #[]] B (Said J Jx zs)) := fun f2 B hf2 hj => by
    subst hf2
    rw [← hzs]
    exact (hr (first - tl.list.length - 1) (fun i => J (((tl.list.drop first) ++ (if first ≤ tl.list.length then [(k, v)] else [])).length + i)) (fun i => Jx (((tl.list.drop first) ++ (if first ≤ tl.list.length then [(k, v)] else [])).length + i)) B (by omega)
      (fun i A q h => hJ _ A q h) (fun i A h => (hL _ A h).2.2) (Owes.right hY) hj).mono fun e B' h => Said.right h
  have Y1 : Hid (first ≤ tl.list.length → ∀ A, J (tl.list.drop first).length A → YieldsAt Tryd.prog l #[.int .u64 k, kn v] A fun e B => ∃ b : Bool, e = .returned (.bool b) ∧ Hid ((b = true ∧ J ((tl.list.drop first) ++ (if first ≤ tl.list.length then [(k, v)] else [])).length B) ∨ (b = false ∧ Said J Jx zs (.returned (.bool false)) B))) := fun hg A hj => by
    have hy := hY (tl.list.drop first).length A (k, v) (by rw [if_pos hg, List.append_assoc, List.getElem?_append_right (Nat.le_refl _)]; simp) hj
    refine hy.mono ?_
    rintro e B ⟨q, he, ho⟩
    refine ⟨q, he, ?_⟩
    rcases ho.out with ⟨hq, h⟩ | ⟨hq, h⟩
    · exact .inl ⟨hq, by rw [if_pos hg, List.length_append]; exact h⟩
    · refine .inr ⟨hq, ?_⟩
      rw [← hzs]
      exact Said.stop ⟨_, by omega, by rw [if_pos hg, List.length_append]; simp, h⟩
  have F0 : Hid (¬ first ≤ tl.list.length → (tl.list.drop first ++ (if first ≤ tl.list.length then [(k, v)] else [])).length = (tl.list.drop first).length) := fun hg => by rw [if_neg hg, List.append_nil]
  rw [hzs]
  have X1 := Lib.hid hJ
  clear hJ hL hY hr hl Z hlen hn hm h0 hzs
  obtain ⟨la, hla⟩ : ∃ la, tl.addr = la := ⟨_, rfl⟩
  obtain ⟨ra, hra⟩ : ∃ ra, tr.addr = ra := ⟨_, rfl⟩
  obtain ⟨n, hnn⟩ : ∃ n, tl.list.length = n := ⟨_, rfl⟩
  rw [hla] at A1 c2
  rw [hla, hnn] at hc2
  rw [hnn] at hlm R1 Y1 F0
  rw [hra] at R1 D
  obtain ⟨p1, hp1⟩ : ∃ p1, (tl.list.drop first).length = p1 := ⟨_, rfl⟩
  obtain ⟨p2, hp2⟩ : ∃ p2, (tl.list.drop first ++ (if first ≤ n then [(k, v)] else [])).length = p2 := ⟨_, rfl⟩
  rw [hp1] at Y1 S1 F0
  rw [hp2] at R1 Y1 F0
  have A2 : Hid (Calls Tryd.prog 94 #[.pointer la, .int .i64 (first : Int), .func (.yield l) #[] #[]] W fun e B => ∃ q : Bool, e = .returned (.bool q) ∧ Hid ((q = true ∧ J p1 B) ∨ (q = false ∧ Said J Jx zs (.returned (.bool false)) B))) := A1.out.mono fun e B ⟨q, he, ho⟩ => ⟨q, he, by
    rcases ho.out with ⟨hq, h⟩ | ⟨hq, h⟩
    · exact .inl ⟨hq, hp1 ▸ h⟩
    · exact .inr ⟨hq, S1.out B (by rw [hp1] at h; exact h)⟩⟩
  clear hla hra hnn hp1 hp2 A1 S1
  obtain ⟨f2, hf2, hf2'⟩ : ∃ f2 : Nat, max ((first : Int) - (n : Int) - 1) 0 = (f2 : Int) ∧ f2 = first - n - 1 := ⟨first - n - 1, by omega, rfl⟩
  have HF := Lib.hid hf2'
  clear hf2'
  show Calls Tryd.prog 94 #[.pointer (some ⟨b, 0, none⟩), .int .i64 (first : Int), .func (.yield l) #[] #[]] W _
  refine callsIn_wide (n := 0).1 (callsIn_of_wp Tryd.func94 rfl trivial ?_ rfl)
  simp only [Tryd.ntmps94, List.size_toArray, List.length_cons, List.length_nil, Nat.reduceAdd, Nat.reduceSub, Array.replicate_succ, Array.replicate_zero, List.push_toArray, List.append_toArray, List.nil_append, List.cons_append]
  gi_wp2_with fail
  refine (callsIn_wide.2 hc.out).mono ?_
  rintro e w1 ⟨rfl, e1⟩
  obtain rfl : W = w1 := e1.symm
  gi_wp2_with fail
  refine (callsIn_wide.2 hc2.out).mono ?_
  rintro e w1 ⟨rfl, e1⟩
  obtain rfl : W = w1 := e1.symm
  gi_wp2_with fail
  refine (callsIn_wide.2 A2.out).mono ?_
  rintro e B ⟨q, rfl, ho⟩
  clear c2 hc hc2 A2
  cases q with
  | false =>
    have ho2 : Hid (Said J Jx zs (.returned (.bool false)) B) := by rcases ho.out with ⟨h, _⟩ | ⟨_, h⟩; cases h; exact h
    clear ho
    gi_wp2
    go_ret
    exact ho2.out
  | true =>
    have hj : Hid (J p1 B) := by rcases ho.out with ⟨_, h⟩ | ⟨h, _⟩; exact h; cases h
    clear ho
    obtain ⟨c0, c1, c1b, c3⟩ := D.out _ _ hj.out
    by_cases hg : first ≤ n
    · have hd : decide ((first : Int) ≤ (n : Int)) = true := by simp; omega
      obtain ⟨fn, tmps, assign, body, hy⟩ := Y1.out hg B hj.out
      have hy3 : (Instr.yield l #[.int .u64 k, kn v]).run Tryd.prog B.drew = .ok (.round l fn tmps assign body) B.drew := (hy 1).1
      have hy2 := Lib.hid (fun q => (hy q).2)
      have hmx : Tryd.prog.follows .mixedOrders = true := by kernel_rfl
      clear hy Y1 c3
      gi_wp2_with fail
      refine wpIn_region_any hmx ?_
      change wpAnyIn _ _ _ _ _ _ _ _ _ (World.drew _)
      refine take_at (i := 0) (d := 25) (v := .int .i64 (first : Int)) rfl rfl rfl (by kernel_rfl) (by kernel_rfl) (by kernel_rfl) (fun _ _ _ h => h) ⟨Or.inl ⟨by kernel_rfl, fun w => by kernel_rfl⟩, fun _ => rfl⟩ ?_
      refine take_at (i := 1) (d := 26) (v := .int .i64 (n : Int)) rfl rfl rfl (by kernel_rfl) (by kernel_rfl) (by kernel_rfl) (fun _ _ _ h => h) ⟨Or.inl ⟨by kernel_rfl, fun w => by kernel_rfl⟩, fun _ => rfl⟩ ?_
      refine take_at (i := 2) (d := 27) (v := .bool true) rfl rfl rfl (by kernel_rfl) (by kernel_rfl) (by kernel_rfl) (fun _ _ _ h => h) ⟨Or.inl ⟨by kernel_rfl, fun w => (show _ = Result.ok (Next.value (Value.bool (decide ((first : Int) ≤ (n : Int))))) w by kernel_rfl).trans (by rw [hd])⟩, fun _ => rfl⟩ ?_
      refine take_at (i := 3) (d := 28) (v := .bool true) rfl rfl rfl (by kernel_rfl) (by kernel_rfl) (by kernel_rfl) (fun _ _ _ h => h) ⟨Or.inl ⟨by kernel_rfl, fun w => by kernel_rfl⟩, fun _ => rfl⟩ ?_
      refine take_at (i := 4) (d := 29) (v := .func (.yield l) #[] #[]) rfl rfl rfl (by kernel_rfl) (by kernel_rfl) (by kernel_rfl) (fun _ _ _ h => h) ⟨Or.inl ⟨by kernel_rfl, fun w => by kernel_rfl⟩, fun _ => rfl⟩ ?_
      refine take_at (i := 5) (d := 30) (v := .pointer (some ⟨b, 0, none⟩)) rfl rfl rfl (by kernel_rfl) (by kernel_rfl) (by kernel_rfl) (fun _ _ _ h => h) ⟨Or.inl ⟨by kernel_rfl, fun w => by kernel_rfl⟩, fun _ => rfl⟩ ?_
      refine take_at (i := 6) (d := 31) (v := .pointer (some ⟨b, 0, none⟩)) rfl rfl rfl (by kernel_rfl) (by kernel_rfl) (by kernel_rfl) (fun _ _ _ h => h) ⟨Or.inl ⟨by kernel_rfl, fun w => by kernel_rfl⟩, fun _ => rfl⟩ ?_
      refine take_at (i := 7) (d := 32) (v := .pointer (some ⟨b, 0, none⟩)) rfl rfl rfl (by kernel_rfl) (by kernel_rfl) (by kernel_rfl) (fun _ _ _ h => h) ⟨Or.inl ⟨by kernel_rfl, fun w => by kernel_rfl⟩, fun _ => rfl⟩ ?_
      refine take_at (i := 9) (d := 34) (v := .pointer (some ⟨b, 0, none⟩)) rfl rfl rfl (by kernel_rfl) (by kernel_rfl) (by kernel_rfl) (fun _ _ _ h => h) ⟨Or.inl ⟨by kernel_rfl, fun w => by kernel_rfl⟩, fun _ => rfl⟩ ?_
      refine take_at (i := 10) (d := 35) (v := .pointer (some ⟨b, 0, none⟩)) rfl rfl rfl (by kernel_rfl) (by kernel_rfl) (by kernel_rfl) (fun _ _ _ h => h) ⟨Or.inl ⟨by kernel_rfl, fun w => by kernel_rfl⟩, fun _ => rfl⟩ ?_
      refine take_at (i := 11) (d := 36) (v := .pointer (some ⟨b, 1, none⟩)) rfl rfl rfl (by kernel_rfl) (by kernel_rfl) (by kernel_rfl) (fun _ _ _ h => h) ⟨Or.inl ⟨by kernel_rfl, fun w => by kernel_rfl⟩, fun _ => rfl⟩ ?_
      refine wpAnyIn_ready (rs := [8, 12]) (by kernel_rfl) (by simp) ?_
      refine BigFrame.allReadyIn_want (i := 8) rfl (by kernel_rfl) (fun K hK => ?one) (BigFrame.allReadyIn_want (i := 12) rfl (by kernel_rfl) (fun K hK => ?two) AllReadyIn.nil)
      case' one =>
        go_simp
        refine hK _ _ ?_
        clear hK K
        refine wpAnyIn_ready (rs := [12]) (by kernel_rfl) (by simp) (BigFrame.allReadyIn_want (i := 12) rfl (by kernel_rfl) (fun K hK => ?_) AllReadyIn.nil)
        go_simp
        refine hK _ _ ?_
        clear hK K
      case' two =>
        go_simp
        refine hK _ _ ?_
        clear hK K
        refine wpAnyIn_ready (rs := [8]) (by kernel_rfl) (by simp) (BigFrame.allReadyIn_want (i := 8) rfl (by kernel_rfl) (fun K hK => ?_) AllReadyIn.nil)
        go_simp
        refine hK _ _ ?_
        clear hK K
      all_goals (
        refine wpAnyIn_ready (rs := [13]) (by kernel_rfl) (by simp) (BigFrame.allReadyIn_want (i := 13) rfl (by kernel_rfl) (fun K hK => ?_) AllReadyIn.nil)
        go_simp
        refine RoundIn.mono (hy2.out 1) ?_
        rintro e B3 ⟨q, rfl, ho⟩
        go_simp
        refine hK _ _ ?_
        clear hK K
        refine take_at (i := 14) (d := 39) (v := .bool (!q)) rfl rfl rfl (by kernel_rfl) (by kernel_rfl) (by kernel_rfl) (fun _ _ _ h => h) ⟨Or.inl ⟨by kernel_rfl, fun w => by kernel_rfl⟩, fun _ => rfl⟩ ?_
        refine take_at (i := 15) (d := 40) (v := .bool (!q)) rfl rfl rfl (by kernel_rfl) (by kernel_rfl) (by kernel_rfl) (fun _ _ _ h => h) ⟨Or.inl ⟨by kernel_rfl, fun w => by kernel_rfl⟩, fun _ => rfl⟩ ?_
        refine wpAnyIn_done (by kernel_rfl) ?_ _
        rcases ho.out with ⟨rfl, h⟩ | ⟨rfl, h⟩
        · have R := Lib.hid (R1.out f2 B3 HF.out h)
          have c3 := (D.out _ _ h).2.2.2
          clear ho h c0 c1 c1b
          gi_wp2_with fail
          refine (callsIn_wide.2 R.out).mono ?_
          rintro e B4 ⟨q, rfl, hs⟩
          gi_wp2
          go_ret
          exact ⟨q, rfl, hs⟩
        · have HH := Lib.hid h
          clear ho h
          gi_wp2
          go_ret
          exact HH.out)
    · have hd : decide ((first : Int) ≤ (n : Int)) = false := by simp; omega
      have hmx : Tryd.prog.follows .mixedOrders = true := by kernel_rfl
      have hj2 : Hid (J p2 B.drew) := by rw [F0.out hg]; exact X1.out _ _ 1 hj.out
      have R := Lib.hid (R1.out f2 B.drew HF.out hj2.out)
      have d3 := (D.out _ _ hj2.out).2.2.2
      clear Y1 R1 hj c0 c1 c1b
      gi_wp2_with fail
      refine wpIn_region_any hmx ?_
      change wpAnyIn _ _ _ _ _ _ _ _ _ (World.drew _)
      refine take_at (i := 0) (d := 25) (v := .int .i64 (first : Int)) rfl rfl rfl (by kernel_rfl) (by kernel_rfl) (by kernel_rfl) (fun _ _ _ h => h) ⟨Or.inl ⟨by kernel_rfl, fun w => by kernel_rfl⟩, fun _ => rfl⟩ ?_
      refine take_at (i := 1) (d := 26) (v := .int .i64 (n : Int)) rfl rfl rfl (by kernel_rfl) (by kernel_rfl) (by kernel_rfl) (fun _ _ _ h => h) ⟨Or.inl ⟨by kernel_rfl, fun w => by kernel_rfl⟩, fun _ => rfl⟩ ?_
      refine take_at (i := 2) (d := 27) (v := .bool false) rfl rfl rfl (by kernel_rfl) (by kernel_rfl) (by kernel_rfl) (fun _ _ _ h => h) ⟨Or.inl ⟨by kernel_rfl, fun w => (show _ = Result.ok (Next.value (Value.bool (decide ((first : Int) ≤ (n : Int))))) w by kernel_rfl).trans (by rw [hd])⟩, fun _ => rfl⟩ ?_
      refine take_at (i := 3) (d := 28) (v := .bool false) rfl rfl rfl (by kernel_rfl) (by kernel_rfl) (by kernel_rfl) (fun _ _ _ h => h) ⟨Or.inl ⟨by kernel_rfl, fun w => by kernel_rfl⟩, fun _ => rfl⟩ ?_
      refine take_at (i := 4) (d := 29) (v := undef) rfl rfl rfl (by kernel_rfl) (by kernel_rfl) (by kernel_rfl) (fun _ _ _ h => h) ⟨Or.inr ⟨by kernel_rfl, rfl⟩, fun _ => rfl⟩ ?_
      refine take_at (i := 5) (d := 30) (v := undef) rfl rfl rfl (by kernel_rfl) (by kernel_rfl) (by kernel_rfl) (fun _ _ _ h => h) ⟨Or.inr ⟨by kernel_rfl, rfl⟩, fun _ => rfl⟩ ?_
      refine take_at (i := 6) (d := 31) (v := undef) rfl rfl rfl (by kernel_rfl) (by kernel_rfl) (by kernel_rfl) (fun _ _ _ h => h) ⟨Or.inr ⟨by kernel_rfl, rfl⟩, fun _ => rfl⟩ ?_
      refine take_at (i := 7) (d := 32) (v := undef) rfl rfl rfl (by kernel_rfl) (by kernel_rfl) (by kernel_rfl) (fun _ _ _ h => h) ⟨Or.inr ⟨by kernel_rfl, rfl⟩, fun _ => rfl⟩ ?_
      refine take_at (i := 8) (d := 33) (v := undef) rfl rfl rfl (by kernel_rfl) (by kernel_rfl) (by kernel_rfl) (fun _ _ _ h => h) ⟨Or.inr ⟨by kernel_rfl, rfl⟩, fun _ => rfl⟩ ?_
      refine take_at (i := 9) (d := 34) (v := undef) rfl rfl rfl (by kernel_rfl) (by kernel_rfl) (by kernel_rfl) (fun _ _ _ h => h) ⟨Or.inr ⟨by kernel_rfl, rfl⟩, fun _ => rfl⟩ ?_
      refine take_at (i := 10) (d := 35) (v := undef) rfl rfl rfl (by kernel_rfl) (by kernel_rfl) (by kernel_rfl) (fun _ _ _ h => h) ⟨Or.inr ⟨by kernel_rfl, rfl⟩, fun _ => rfl⟩ ?_
      refine take_at (i := 11) (d := 36) (v := undef) rfl rfl rfl (by kernel_rfl) (by kernel_rfl) (by kernel_rfl) (fun _ _ _ h => h) ⟨Or.inr ⟨by kernel_rfl, rfl⟩, fun _ => rfl⟩ ?_
      refine take_at (i := 12) (d := 37) (v := undef) rfl rfl rfl (by kernel_rfl) (by kernel_rfl) (by kernel_rfl) (fun _ _ _ h => h) ⟨Or.inr ⟨by kernel_rfl, rfl⟩, fun _ => rfl⟩ ?_
      refine take_at (i := 13) (d := 38) (v := undef) rfl rfl rfl (by kernel_rfl) (by kernel_rfl) (by kernel_rfl) (fun _ _ _ h => h) ⟨Or.inr ⟨by kernel_rfl, rfl⟩, fun _ => by kernel_rfl⟩ ?_
      refine take_at (i := 14) (d := 39) (v := undef) rfl rfl rfl (by kernel_rfl) (by kernel_rfl) (by kernel_rfl) (fun _ _ _ h => h) ⟨Or.inr ⟨by kernel_rfl, rfl⟩, fun _ => rfl⟩ ?_
      refine take_at (i := 15) (d := 40) (v := .bool false) rfl rfl rfl (by kernel_rfl) (by kernel_rfl) (by kernel_rfl) (fun _ _ _ h => h) ⟨Or.inl ⟨by kernel_rfl, fun w => by kernel_rfl⟩, fun _ => rfl⟩ ?_
      refine wpAnyIn_done (by kernel_rfl) ?_ _
      simp only [List.setIfInBounds_toArray, List.set_cons_succ, List.set_cons_zero]
      gi_wp2_with fail
      refine (callsIn_wide.2 R.out).mono ?_
      rintro e B4 ⟨q, rfl, hs⟩
      gi_wp2
      go_ret
      exact ⟨q, rfl, hs⟩
theorem tell_any (l : Nat) : ∀ t : Tr, t.list.length < 1000000000000000000 → TellsOf l t
  | .nil, _ => fun first J Jx W hf hJ hL hY h0 => by
    refine (tell_short l .nil first W trivial (Nat.zero_le _)).mono ?_
    rintro e B ⟨rfl, rfl⟩
    exact ⟨true, rfl, .inl ⟨rfl, by simpa [Tr.list] using h0⟩⟩
  | .node b k v tl tr, h => by
    have h' := h
    rw [Tr.len_node] at h'
    exact tell_node l b k v tl tr h (tell_any l tl (by omega)) (tell_any l tr (by omega))
end Go.Proofs.YtnhpcjiieagjnaaDoor.rk
