/-
  A map of who stands where, as it lies in memory ('Mo'): looked up, stored into. Of no function of the program.
  Who stands where ('Inv'); whether a place is a key's own; slices.ContainsFunc and IndexFunc over it, by their contracts.
  Who stands where behind some keys ('Sp'); a box of who stands somewhere; whether a key has a place of its own ('aloneP').
  exact.standsOf, where the places are told by the closure 30, by its contract.
  exact.ownPlaces, where the places are told by the closure 30, by its contract.
  exact.standsOf, where the places are told by the closure 32, by its contract.
  exact.ownPlaces, where the places are told by the closure 32, by its contract.
  exact.sketchPlaces and doorPlaces, and the closures of Apart, by their contracts.
  exact.Apart by its contract.
  ExactBelow walked: for every two numbers and every slice of words it returns true; what was in memory stays.
  The document's Apart (cortadoref14) by its contract.
  Where keys have places of their own: by the program, by the document, of no function; the first keys of a slice.
  ExactSame walked: for every two numbers and every slice of words it returns true; what was in memory stays.
-/
import Derived.Test.YtnhpcjiieagjnaaDoorRefs
import Derived.Test.YtnhpcjiieagjnaaDoorEx
import Derived.Maps.OwnSet
import Derived.Maps.Views
import Derived.Deep.RegionHeld3
import Derived.BigQuiet
import Derived.Deep.QuietTactic
import Derived.Test.YtnhpcjiieagjnaaDoorBo
import Derived.Deep.RegionWith
import Derived.Deep.RegionHeld
import Derived.Lib.SliceRun
namespace Go.Proofs.YtnhpcjiieagjnaaDoor.ap
open Go.RowKit Go.Maps
/-- how who stands somewhere reads. -/
def sR (v : Value) : Option (DataW Unit × List MemPlace) :=
  match v with
  | .agg cs => (match cs.toList with
    | [.int .u64 h, .bool s] => some (.agg [.lit (.int .u64 h), .lit (.bool s)], [])
    | _ => none)
  | _ => none
theorem sR_mk (h : Int) (s : Bool) : sR (.agg #[.int .u64 h, .bool s]) = some (.agg [.lit (.int .u64 h), .lit (.bool s)], []) := rfl
theorem sR_inv {v : Value} {z : DataW Unit × List MemPlace} (h : sR v = some z) : ∃ a s, v = .agg #[.int .u64 a, .bool s] ∧ z = (.agg [.lit (.int .u64 a), .lit (.bool s)], []) := by
  unfold sR at h
  split at h
  · rename_i cs
    split at h
    · rename_i a s hcs
      refine ⟨a, s, ?_, (Option.some.inj h).symm⟩
      congr 1
      apply Array.toList_inj.1
      rw [hcs]
    · cases h
  · cases h
/-- who stands there: the first one, with another one? -/
abbrev sv (p : Nat × Bool) : Value := .agg #[.int .u64 (p.1 : Int), .bool p.2]
def en (o : Option (Nat × Bool)) : DataW Unit := .agg [.lit (.int .u64 ((o.getD (0, false)).1 : Int)), .lit (.bool (o.getD (0, false)).2)]
theorem kInt : Keyed Tryd.prog 3 := int_keyed Tryd.underlying3
theorem zStand (w : World) : (zeroValue 103).run Tryd.prog w = .ok (.agg #[.int .u64 0, .bool false]) w := by kernel_rfl
theorem kLit (q : Nat) (hq : q < 4611686018427387904) : keyOf Tryd.prog 3 (.int .i64 (q : Int)) = some (.int .i64 (q : Int)) := keyOf_int_mk Tryd.underlying3 (WalkArith.wf_i64 (by omega))
theorem lit_ne {a b : Nat} (h : a ≠ b) : (Lit.int .i64 (a : Int)) ≠ .int .i64 (b : Int) := fun e => h (by injection e with _ e; omega)
/-- a map of at most n places lies in block b; f tells who stands where. -/
def Mo (w : World) (b n : Nat) (f : Nat → Option (Nat × Bool)) : Prop :=
  ∃ D : DataW Unit, w.ownsMap Tryd.prog 3 sR b n D ∧ ∀ q : Nat, D.atKey (.int .i64 (q : Int)) (en none) = en (f q) ∧ Maps.has D (.int .i64 (q : Int)) = (f q).isSome
namespace Mo
variable {w w' : World} {b n q : Nat} {f : Nat → Option (Nat × Bool)}
theorem made (w : World) : Mo (w.alloc (.map #[] 0)) w.heap.size 0 fun _ => none :=
  ⟨.map [], World.ownsMap_made w Tryd.prog 3 sR, fun _ => ⟨rfl, rfl⟩⟩
theorem lt (h : Mo w b n f) : b < w.heap.size := by
  obtain ⟨D, h, _⟩ := h
  exact h.lt
theorem grown {row : Option Nat} (h : Mo w b n f) (hg : w.grownBy w' row) (hne : some b ≠ row) : Mo w' b n f := by
  obtain ⟨D, h, hf⟩ := h
  exact ⟨D, h.kept hg hne, hf⟩
theorem below (h : Mo w b n f) (hb : Below w.heap.size w w') : Mo w' b n f := h.grown (row := none) ⟨hb.os, hb.tape, hb.output, hb.size, fun k hk _ => hb.block k hk⟩ (by simp)
theorem setCell (h : Mo w b n f) {a : Addr} (ha : b ≠ a.block) (u : Value) : Mo (w.setCell a u) b n f := by
  obtain ⟨D, h, hf⟩ := h
  exact ⟨D, h.setCell ha u, hf⟩
theorem look_ok (h : Mo w b n f) (hq : q < 4611686018427387904) : (Instr.lookup 100 (.map (some b)) (.int .i64 (q : Int)) true).run Tryd.prog w = .ok (.tuple #[sv ((f q).getD (0, false)), .bool (f q).isSome]) w := by
  obtain ⟨D, h, hf⟩ := h
  obtain ⟨h1, h2⟩ := hf q
  obtain ⟨v, ps, hr, hv⟩ := h.look_ok kInt Tryd.underlying100 (zStand w) (zd := en none) (sR_mk 0 false) (kLit q hq)
  rw [h1] at hv
  obtain ⟨a, s, rfl, e⟩ := sR_inv hv
  rw [hr, h2]
  unfold en at e
  simp only [Prod.mk.injEq, DataW.agg.injEq, List.cons.injEq, DataW.lit.injEq, Lit.int.injEq, Lit.bool.injEq, true_and, and_true] at e
  obtain ⟨⟨rfl, rfl⟩, _⟩ := e
  rfl
theorem look (h : Mo w b n f) (hq : q < 4611686018427387904) : (Instr.lookup 100 (.map (some b)) (.int .i64 (q : Int)) false).run Tryd.prog w = .ok (sv ((f q).getD (0, false))) w := by
  obtain ⟨D, h, hf⟩ := h
  obtain ⟨h1, h2⟩ := hf q
  obtain ⟨v, ps, hr, hv⟩ := h.lookup kInt Tryd.underlying100 (zStand w) (zd := en none) (sR_mk 0 false) (kLit q hq)
  rw [h1] at hv
  obtain ⟨a, s, rfl, e⟩ := sR_inv hv
  rw [hr]
  unfold en at e
  simp only [Prod.mk.injEq, DataW.agg.injEq, List.cons.injEq, DataW.lit.injEq, Lit.int.injEq, Lit.bool.injEq, true_and, and_true] at e
  obtain ⟨⟨rfl, rfl⟩, _⟩ := e
  rfl
theorem put (h : Mo w b n f) (hn : n < 1000000000) (hq : q < 4611686018427387904) (p : Nat × Bool) : ∃ w', (Instr.mapUpdate 100 (.map (some b)) (.int .i64 (q : Int)) (sv p)).run Tryd.prog w = .ok () w' ∧ Mo w' b (n + 1) (fun r => if r = q then some p else f r) ∧ w.grownBy w' (some b) := by
  obtain ⟨D, h, hf⟩ := h
  have hm := h.isMap
  have hk : WideAt.IsKeyLit (.int .i64 (q : Int)) := kInt.key (kLit q hq)
  obtain ⟨w', hr, h1, h2⟩ := h.update kInt Tryd.underlying100 (by unfold maxLen; omega) (kLit q hq) (sR_mk (p.1 : Int) p.2)
  refine ⟨w', hr, ⟨_, h1, fun r => ?_⟩, h2⟩
  show _ = en (if r = q then some p else f r) ∧ _ = (if r = q then some p else f r).isSome
  by_cases e : r = q
  · subst e
    rw [atKey_put_same hm hk, has_put_same hm hk]
    simp [en]
  · rw [atKey_put_other (lit_ne e), has_put_other (lit_ne e), if_neg e]
    exact hf r
end Mo
end Go.Proofs.YtnhpcjiieagjnaaDoor.ap
namespace Go.Proofs.YtnhpcjiieagjnaaDoor.ap
open Go.RowKit
/-- the key x comes to stand at p. -/
def stp (x p : Nat) (f : Nat → Option (Nat × Bool)) : Nat → Option (Nat × Bool) := fun q => if q = p then some (match f p with
  | none => (x, false)
  | some (h, s) => (h, s || h != x)) else f q
/-- f tells of each place who stands there first, and whether another one does, of those of whom S says so. -/
structure Inv (S : Nat → Nat → Prop) (f : Nat → Option (Nat × Bool)) : Prop where
  no : ∀ q x, f q = none → ¬ S x q
  some : ∀ q h s, f q = some (h, s) → S h q ∧ (s = true ↔ ∃ y, S y q ∧ y ≠ h)
theorem Inv.start : Inv (fun _ _ => False) fun _ => none := ⟨fun _ _ _ h => h, fun _ _ _ h => by cases h⟩
theorem Inv.congr {S S' : Nat → Nat → Prop} {f : Nat → Option (Nat × Bool)} (h : Inv S f) (hs : ∀ y q, S y q ↔ S' y q) : Inv S' f :=
  ⟨fun q x hq hx => h.no q x hq ((hs x q).2 hx), fun q a s hq => by
    obtain ⟨h1, h2⟩ := h.some q a s hq
    refine ⟨(hs a q).1 h1, h2.trans ⟨?_, ?_⟩⟩
    · rintro ⟨y, hy, hne⟩; exact ⟨y, (hs y q).1 hy, hne⟩
    · rintro ⟨y, hy, hne⟩; exact ⟨y, (hs y q).2 hy, hne⟩⟩
theorem Inv.put {S : Nat → Nat → Prop} {f : Nat → Option (Nat × Bool)} (h : Inv S f) (x p : Nat) : Inv (fun y q => S y q ∨ (y = x ∧ q = p)) (stp x p f) := by
  refine ⟨fun q y hq hy => ?_, fun q a s hq => ?_⟩
  · unfold stp at hq
    split at hq
    · cases hq
    · rename_i hne
      rcases hy with hy | ⟨_, rfl⟩
      · exact h.no q y hq hy
      · exact hne rfl
  · unfold stp at hq
    split at hq
    · rename_i e
      subst e
      cases hf : f q with
      | none =>
        rw [hf] at hq
        simp only [Option.some.injEq, Prod.mk.injEq] at hq
        obtain ⟨rfl, rfl⟩ := hq
        refine ⟨.inr ⟨rfl, rfl⟩, ⟨fun h => (by cases h), ?_⟩⟩
        rintro ⟨y, hy | ⟨rfl, _⟩, hne⟩
        · exact absurd hy (h.no q y hf)
        · exact absurd rfl hne
      | some v =>
        obtain ⟨b, t⟩ := v
        rw [hf] at hq
        simp only [Option.some.injEq, Prod.mk.injEq] at hq
        obtain ⟨rfl, rfl⟩ := hq
        obtain ⟨h1, h2⟩ := h.some q b t hf
        refine ⟨.inl h1, ?_⟩
        rw [Bool.or_eq_true, h2]
        constructor
        · rintro (⟨y, hy, hne⟩ | hne)
          · exact ⟨y, .inl hy, hne⟩
          · exact ⟨x, .inr ⟨rfl, rfl⟩, fun e => by simp [e] at hne⟩
        · rintro ⟨y, hy | ⟨rfl, _⟩, hne⟩
          · exact .inl ⟨y, hy, hne⟩
          · exact .inr (by simpa using fun e => hne e.symm)
    · rename_i hne
      obtain ⟨h1, h2⟩ := h.some q a s hq
      refine ⟨.inl h1, h2.trans ⟨?_, ?_⟩⟩
      · rintro ⟨y, hy, hn⟩; exact ⟨y, .inl hy, hn⟩
      · rintro ⟨y, hy | ⟨_, e⟩, hn⟩
        · exact ⟨y, hy, hn⟩
        · exact absurd e hne
/-- is the place of those of one key alone? -/
def ownF (f : Nat → Option (Nat × Bool)) (q : Nat) : Bool := !((f q).getD (0, false)).2
theorem Inv.own {S : Nat → Nat → Prop} {f : Nat → Option (Nat × Bool)} (h : Inv S f) (x q : Nat) (hx : S x q) : ownF f q = true ↔ ∀ y, S y q → y = x := by
  unfold ownF
  cases hf : f q with
  | none => exact absurd hx (h.no q x hf)
  | some v =>
    obtain ⟨a, s⟩ := v
    obtain ⟨h1, h2⟩ := h.some q a s hf
    rw [Option.getD_some]
    cases s
    · have h3 : ∀ y, S y q → y = a := fun y hy => Classical.byContradiction fun hne => by
        have := h2.2 ⟨y, hy, hne⟩
        cases this
      exact ⟨fun _ y hy => (h3 y hy).trans (h3 x hx).symm, fun _ => rfl⟩
    · obtain ⟨y, hy, hne⟩ := h2.1 rfl
      exact ⟨fun h => (by cases h), fun h => absurd ((h y hy).trans (h a h1).symm) hne⟩
set_option maxRecDepth 100000 in
/-- the closure of ownPlaces. -/
theorem own60 {V : World} {M b n q : Nat} {f : Nat → Option (Nat × Bool)} (hM : V.heap[M]? = some (.cells #[.map (some b)] 100 (0, 0))) (hf : Mo V b n f) (hq : q < 4611686018427387904) :
    Calls Tryd.prog 60 #[.int .i64 (q : Int), .pointer (some ⟨M, 0, none⟩)] V fun e B => e = .returned (.bool (ownF f q)) ∧ V = B := by
  have c0 : V.cell? ⟨M, 0, none⟩ = some (.map (some b)) := by rw [nb.cell_of hM]; rfl
  have L := hf.look hq
  unfold ownF
  clear hM hf
  generalize (f q).getD (0, false) = v at *
  obtain ⟨a, s⟩ := v
  have L2 : (Instr.lookup 100 (.map (some b)) (.int .i64 (q : Int)) false).run Tryd.prog V = .ok (.agg #[.int .u64 (a : Int), .bool s]) V := L
  have F : (Instr.field 103 (.agg #[.int .u64 (a : Int), .bool s]) 1).run Tryd.prog V = .ok (.bool s) V := by kernel_rfl
  clear L
  go_enter Tryd.func60, Tryd.ntmps60
  go_wp2
  go_ret
  exact ⟨by simp, rfl⟩
/-- is any of four places of one key alone? -/
def anyF (f : Nat → Option (Nat × Bool)) (ps : Nat → Nat) : Bool := (List.range 4).any fun i => ownF f (ps i)
theorem any_some {f : Nat → Option (Nat × Bool)} {ps : Nat → Nat} (i : Nat) (hi : i < 4) (h : ownF f (ps i) = true) : anyF f ps = true := List.any_eq_true.2 ⟨i, List.mem_range.2 hi, h⟩
theorem any_none {f : Nat → Option (Nat × Bool)} {ps : Nat → Nat} (h : ∀ i, i < 4 → ownF f (ps i) = false) : anyF f ps = false := by
  unfold anyF
  rw [List.any_eq_false]
  intro i hi
  rw [h i (List.mem_range.1 hi)]
  decide
set_option maxRecDepth 100000 in
set_option maxHeartbeats 2000000 in
theorem index81 {V : World} {M b n : Nat} {f : Nat → Option (Nat × Bool)} (hM : V.heap[M]? = some (.cells #[.map (some b)] 100 (0, 0))) (hf : Mo V b n f) (g cap : Nat) (ps : Nat → Nat) (hc : ∀ i, i < 4 → V.cell? ⟨g, i, none⟩ = some (.int .i64 (ps i : Int)) ∧ ps i < 4611686018427387904) :
    Calls Tryd.prog 81 #[.slice (some ⟨g, 0, none⟩) 4 cap, .func (.func 60) #[] #[.pointer (some ⟨M, 0, none⟩)]] V fun e B => ∃ r : Int, e = .returned (.int .i64 r) ∧ Hid (decide (0 ≤ r) = anyF f ps ∧ -2 < r ∧ r < 5 ∧ V = B) := by
  have G : Hid (∀ i, i < 4 → V.cell? ⟨g, i, none⟩ = some (.int .i64 (ps i : Int)) ∧ Hid (Calls Tryd.prog 60 #[.int .i64 (ps i : Int), .pointer (some ⟨M, 0, none⟩)] V fun e B => e = .returned (.bool (ownF f (ps i))) ∧ V = B)) := fun i hi => ⟨(hc i hi).1, own60 hM hf (hc i hi).2⟩
  have A1 : Hid (∀ i, i < 4 → ownF f (ps i) = true → anyF f ps = true) := fun i hi h => any_some i hi h
  have A0 : Hid ((∀ i, i < 4 → ownF f (ps i) = false) → anyF f ps = false) := fun h => any_none h
  clear hM hf hc
  generalize anyF f ps = res at *
  obtain ⟨OW, hOW⟩ : ∃ OW : Nat → Bool, (fun i => ownF f (ps i)) = OW := ⟨_, rfl⟩
  have G' : Hid (∀ i, i < 4 → V.cell? ⟨g, i, none⟩ = some (.int .i64 (ps i : Int)) ∧ Hid (Calls Tryd.prog 60 #[.int .i64 (ps i : Int), .pointer (some ⟨M, 0, none⟩)] V fun e B => e = .returned (.bool (OW i)) ∧ V = B)) := by subst hOW; exact G
  have A1' : Hid (∀ i, i < 4 → OW i = true → res = true) := by subst hOW; exact A1
  have A0' : Hid ((∀ i, i < 4 → OW i = false) → res = false) := by subst hOW; exact A0
  clear G A1 A0 hOW
  go_enter Tryd.func81, Tryd.ntmps81
  go_wp2_with fail
  go_loopw [8] (fun i wr => ∃ j : Nat, j ≤ 4 ∧ i = .int .i64 j ∧ Hid (∀ q, q < j → OW q = false) ∧ wr = V) (fun i _ => 4 - (intOf i).toNat)
  case atStart => exact ⟨0, by omega, rfl, fun q hq => absurd hq (by omega), rfl⟩
  case round =>
    obtain ⟨j, hj, rfl, hH, rfl⟩ := hrel
    by_cases hlt : j < 4
    · obtain ⟨d0, P⟩ := G'.out j hlt
      have h1 : (0 : Int) ≤ (j : Int) := by omega
      have h2 : (j : Int) < 4 := by omega
      have d0' : wr.cell? ⟨g, 0 + j, none⟩ = some (.int .i64 (ps j : Int)) := by rw [Nat.zero_add]; exact d0
      clear G'
      go_wp2_with fail
      refine P.out.mono ?_
      rintro e w2 ⟨rfl, e2⟩
      obtain rfl : wr = w2 := e2
      clear P
      cases ho : OW j
      · go_wp2_with fail
        go_roundw
        case rel => exact ⟨j + 1, by omega, by simp, fun q hq => by
          by_cases h : q = j
          · rw [h, ho]
          · exact hH.out q (by omega), trivial⟩
        case measure => simp [intOf]; omega
      · have hr := A1'.out j hlt ho
        go_wp2_with fail
        go_ret
        exact ⟨_, rfl, by rw [hr]; simp, by omega, by omega, rfl⟩
    · obtain rfl : j = 4 := by omega
      have hr := A0'.out hH.out
      go_wp2_with fail
      go_ret
      exact ⟨_, rfl, by rw [hr]; rfl, by omega, by omega, rfl⟩
set_option maxRecDepth 100000 in
theorem contains61 {V : World} {M b n : Nat} {f : Nat → Option (Nat × Bool)} (hM : V.heap[M]? = some (.cells #[.map (some b)] 100 (0, 0))) (hf : Mo V b n f) (g cap : Nat) (ps : Nat → Nat) (hc : ∀ i, i < 4 → V.cell? ⟨g, i, none⟩ = some (.int .i64 (ps i : Int)) ∧ ps i < 4611686018427387904) :
    Calls Tryd.prog 61 #[.slice (some ⟨g, 0, none⟩) 4 cap, .func (.func 60) #[] #[.pointer (some ⟨M, 0, none⟩)]] V fun e B => e = .returned (.bool (anyF f ps)) ∧ V = B := by
  have T := Lib.hid (index81 hM hf g cap ps hc)
  clear hM hf hc
  generalize anyF f ps = res at *
  go_enter Tryd.func61, Tryd.ntmps61
  go_wp2_with fail
  refine T.out.mono ?_
  rintro e w2 ⟨r, rfl, ho⟩
  clear T
  by_cases hr : 0 ≤ r
  · have e1 : res = true := by rw [← ho.out.1]; simp [hr]
    have hV := Lib.hid ho.out.2.2.2
    clear ho
    go_wp2
    go_ret
    exact ⟨by rw [e1]; rfl, hV.out⟩
  · have e1 : res = false := by rw [← ho.out.1]; simp [hr]
    have hV := Lib.hid ho.out.2.2.2
    clear ho
    go_wp2
    go_ret
    exact ⟨by rw [e1]; show Ending.returned (Value.bool (decide (0 ≤ r))) = _; simp [hr], hV.out⟩
end Go.Proofs.YtnhpcjiieagjnaaDoor.ap
namespace Go.Proofs.YtnhpcjiieagjnaaDoor.ap
open Go.RowKit
/-- the closure tells a key's four places. -/
def Gv (gf N : Nat) (pf : Nat → Nat → Nat) (w1 : World) : Prop := ∀ (V : World) (x : Nat), Below w1.heap.size w1 V → x < 18446744073709551616 → Calls Tryd.prog gf #[.int .u64 (x : Int), .pointer (some ⟨N, 0, none⟩)] V fun e B => ∃ g, e = .returned (.slice (some ⟨g, 0, none⟩) 4 4) ∧ Hid (V.heap.size ≤ g ∧ (∀ i, i < 4 → B.cell? ⟨g, i, none⟩ = some (.int .i64 (pf x i : Int)) ∧ pf x i < 4611686018427387904) ∧ Below V.heap.size V B)
/-- y stands at q: among the first k keys, or as the next one, by its first j places. -/
def Sp (pf : Nat → Nat → Nat) (l : List Nat) (k j : Nat) (y q : Nat) : Prop := (y ∈ l.take k ∧ ∃ r, r < 4 ∧ pf y r = q) ∨ (l[k]? = some y ∧ ∃ r, r < j ∧ pf y r = q)
theorem sp_start (pf : Nat → Nat → Nat) (l : List Nat) (y q : Nat) : False ↔ Sp pf l 0 0 y q := by
  unfold Sp
  constructor
  · exact False.elim
  · rintro (⟨h, _⟩ | ⟨_, r, hr, _⟩)
    · simp at h
    · omega
theorem sp_next {pf : Nat → Nat → Nat} {l : List Nat} {k x : Nat} (j : Nat) (hx : l[k]? = some x) (y q : Nat) : (Sp pf l k j y q ∨ (y = x ∧ q = pf x j)) ↔ Sp pf l k (j + 1) y q := by
  unfold Sp
  constructor
  · rintro ((h | ⟨h, r, hr, e⟩) | ⟨rfl, rfl⟩)
    · exact .inl h
    · exact .inr ⟨h, r, by omega, e⟩
    · exact .inr ⟨hx, j, by omega, rfl⟩
  · rintro (h | ⟨h, r, hr, e⟩)
    · exact .inl (.inl h)
    · by_cases hj : r = j
      · subst hj
        obtain rfl : x = y := Option.some.inj (hx.symm.trans h)
        exact .inr ⟨rfl, e.symm⟩
      · exact .inl (.inr ⟨h, r, by omega, e⟩)
theorem sp_key {pf : Nat → Nat → Nat} {l : List Nat} {k x : Nat} (hx : l[k]? = some x) (y q : Nat) : Sp pf l k 4 y q ↔ Sp pf l (k + 1) 0 y q := by
  obtain ⟨hk, hx'⟩ := List.getElem?_eq_some_iff.1 hx
  unfold Sp
  rw [List.take_succ_eq_append_getElem hk, hx', List.mem_append]
  constructor
  · rintro (⟨h, e⟩ | ⟨h, e⟩)
    · exact .inl ⟨.inl h, e⟩
    · obtain rfl : x = y := Option.some.inj (hx.symm.trans h)
      exact .inl ⟨.inr (by simp), e⟩
  · rintro (⟨h | h, e⟩ | ⟨_, r, hr, _⟩)
    · exact .inl ⟨h, e⟩
    · obtain rfl : y = x := by simpa using h
      exact .inr ⟨hx, e⟩
    · omega
theorem sp_all (pf : Nat → Nat → Nat) (l : List Nat) (y q : Nat) : Sp pf l l.length 0 y q ↔ (y ∈ l ∧ ∃ r, r < 4 ∧ pf y r = q) := by
  unfold Sp
  rw [List.take_length]
  constructor
  · rintro (h | ⟨_, r, hr, _⟩)
    · exact h
    · omega
  · exact .inl
/-- is the place i of x none of the others'? -/
def aloneP (pf : Nat → Nat → Nat) (l : List Nat) (x i : Nat) : Prop := ∀ y ∈ l, y ≠ x → ∀ r, r < 4 → pf y r ≠ pf x i
theorem own_alone {pf : Nat → Nat → Nat} {l : List Nat} {f : Nat → Option (Nat × Bool)} (h : Inv (Sp pf l l.length 0) f) {x i : Nat} (hx : x ∈ l) (hi : i < 4) : ownF f (pf x i) = true ↔ aloneP pf l x i := by
  rw [h.own x (pf x i) ((sp_all pf l x _).2 ⟨hx, i, hi, rfl⟩)]
  constructor
  · intro h1 y hy hne r hr e
    exact hne (h1 y ((sp_all pf l y _).2 ⟨hy, r, hr, e⟩))
  · intro h1 y hy
    obtain ⟨hy1, r, hr, e⟩ := (sp_all pf l y _).1 hy
    exact Classical.byContradiction fun hne => h1 y hy1 hne r hr e
/-- has each key a place where none of the others stands? -/
def OwnAll (pf : Nat → Nat → Nat) (l : List Nat) : Prop := ∀ x ∈ l, ∃ i, i < 4 ∧ aloneP pf l x i
theorem any_iff (f : Nat → Option (Nat × Bool)) (ps : Nat → Nat) : anyF f ps = true ↔ ∃ i, i < 4 ∧ ownF f (ps i) = true := by
  unfold anyF
  rw [List.any_eq_true]
  constructor
  · rintro ⟨i, hi, h⟩; exact ⟨i, List.mem_range.1 hi, h⟩
  · rintro ⟨i, hi, h⟩; exact ⟨i, List.mem_range.2 hi, h⟩
theorem key_any {pf : Nat → Nat → Nat} {l : List Nat} {f : Nat → Option (Nat × Bool)} (h : Inv (Sp pf l l.length 0) f) {x : Nat} (hx : x ∈ l) : anyF f (pf x) = true ↔ ∃ i, i < 4 ∧ aloneP pf l x i := by
  rw [any_iff]
  constructor
  · rintro ⟨i, hi, h1⟩; exact ⟨i, hi, (own_alone h hx hi).1 h1⟩
  · rintro ⟨i, hi, h1⟩; exact ⟨i, hi, (own_alone h hx hi).2 h1⟩
/-- who stands somewhere, in a box. -/
def Sb (w : World) (g : Nat) (a : Nat) (s : Bool) : Prop := w.heap[g]? = some (.cells #[.int .u64 (a : Int), .bool s] 103 (0, 0))
namespace Sb
variable {w w' : World} {g a : Nat} {s : Bool}
theorem c0 (h : Sb w g a s) : w.cell? ⟨g, 0, none⟩ = some (.int .u64 (a : Int)) := by rw [nb.cell_of h]; rfl
theorem c1 (h : Sb w g a s) : w.cell? ⟨g, 1, none⟩ = some (.bool s) := by rw [nb.cell_of h]; rfl
theorem fr (h : Sb w g a s) (i : Nat) : w.frozen? ⟨g, i, none⟩ = false := nb.frozen_of h i
theorem new (w : World) : Sb (w.alloc (.cells #[.int .u64 0, .bool false] 103)) w.heap.size 0 false := nb.heap_next rfl _
theorem set0 (h : Sb w g a s) (n : Nat) : Sb (w.setCell ⟨g, 0, none⟩ (.int .u64 (n : Int))) g n s := nb.heap_set h 0 (.int .u64 (n : Int))
theorem set1 (h : Sb w g a s) (c : Bool) : Sb (w.setCell ⟨g, 1, none⟩ (.bool c)) g a c := nb.heap_set h 1 (.bool c)
end Sb
/-- the places of a key, as they lie in the slice that was told. -/
def Pc (V : World) (g : Nat) (ps : Nat → Nat) : Prop := ∀ i, i < 4 → V.cell? ⟨g, i, none⟩ = some (.int .i64 (ps i : Int)) ∧ ps i < 4611686018427387904
theorem Pc.below {V B : World} {g : Nat} {ps : Nat → Nat} (h : Pc V g ps) (hb : Below V.heap.size V B) : Pc B g ps := fun i hi => ⟨(hb.cell (p := ⟨g, i, none⟩) (World.block_lt_of_cell? V ⟨g, i, none⟩ (h i hi).1)).trans (h i hi).1, (h i hi).2⟩
/-- the map behind the first k keys, and the first j places of the next one. -/
structure Ms (w1 : World) (MB : Nat) (pf : Nat → Nat → Nat) (l : List Nat) (k j : Nat) (V : World) : Prop where
  old : Below w1.heap.size w1 V
  map : ∃ n f, Mo V MB n f ∧ n ≤ 4 * k + j ∧ Inv (Sp pf l k j) f
theorem Ms.below {w1 V B : World} {MB k j : Nat} {pf : Nat → Nat → Nat} {l : List Nat} (h : Ms w1 MB pf l k j V) (hb : Below V.heap.size V B) : Ms w1 MB pf l k j B := by
  obtain ⟨h1, n, f, h2, h3, h4⟩ := h
  exact ⟨h1.trans (hb.mono h1.size), n, f, h2.below hb, h3, h4⟩
theorem Ms.key {w1 V : World} {MB k x : Nat} {pf : Nat → Nat → Nat} {l : List Nat} (h : Ms w1 MB pf l k 4 V) (hx : l[k]? = some x) : Ms w1 MB pf l (k + 1) 0 V := by
  obtain ⟨h1, n, f, h2, h3, h4⟩ := h
  exact ⟨h1, n, f, h2, by omega, h4.congr fun y q => sp_key hx y q⟩
/-- one place more. -/
theorem Ms.put {w1 V W4 : World} {MB k j x n : Nat} {pf : Nat → Nat → Nat} {l : List Nat} {f : Nat → Option (Nat × Bool)} (hold : Below w1.heap.size w1 V) (hm : Mo V MB n f) (hn : n ≤ 4 * k + j) (hi : Inv (Sp pf l k j) f) (hMB : w1.heap.size ≤ MB) (hx : l[k]? = some x) (hj : j < 4) (hk : k ≤ 1000000)
    (hq : pf x j < 4611686018427387904) (hb : Below V.heap.size V W4) (p : Nat × Bool) (hp : stp x (pf x j) f (pf x j) = some p) (g : Nat) (ps : Nat → Nat) (hg : g ≠ MB) (hc : Pc V g ps) :
    ∃ w', (Instr.mapUpdate 100 (.map (some MB)) (.int .i64 (pf x j : Int)) (.agg #[.int .u64 (p.1 : Int), .bool p.2])).run Tryd.prog W4 = .ok () w' ∧ Hid (Ms w1 MB pf l k (j + 1) w' ∧ Pc w' g ps) := by
  obtain ⟨w', hr, h1, h2⟩ := (hm.below hb).put (by omega) hq p
  have hc4 := hc.below hb
  refine ⟨w', hr, ⟨?_, n + 1, stp x (pf x j) f, ?_, by omega, (hi.put x (pf x j)).congr fun y q => sp_next j hx y q⟩, fun i hi => ⟨?_, (hc i hi).2⟩⟩
  · have h4 := hold.trans (hb.mono hold.size)
    exact ⟨h2.os.trans h4.os, h2.tape.trans h4.tape, h2.output.trans h4.output, Nat.le_trans h4.size h2.size, fun i hi => (h2.block i (Nat.lt_of_lt_of_le hi h4.size) (by simp; omega)).trans (h4.block i hi)⟩
  · have e : (fun r => if r = pf x j then some p else f r) = stp x (pf x j) f := by
      funext r
      by_cases hr : r = pf x j
      · subst hr
        rw [if_pos rfl, hp]
      · rw [if_neg hr]
        unfold stp
        rw [if_neg hr]
    rw [← e]
    exact h1
  · have hl := World.block_lt_of_cell? W4 ⟨g, i, none⟩ (hc4 i hi).1
    exact (World.cell?_of_block (w := W4) (h2.block g hl (by simpa using hg))).trans (hc4 i hi).1
/-- what ownPlaces owes. -/
def Owns (pf : Nat → Nat → Nat) (l : List Nat) (w1 : World) (e : Ending) (B : World) : Prop := ∃ r : Bool, e = .returned (.bool r) ∧ (r = true ↔ OwnAll pf l) ∧ Below w1.heap.size w1 B
end Go.Proofs.YtnhpcjiieagjnaaDoor.ap
namespace Go.Proofs.YtnhpcjiieagjnaaDoor.ap
open Go.RowKit
set_option maxRecDepth 100000 in
set_option maxHeartbeats 8000000 in
theorem stands30 {w1 : World} {N : Nat} {pf : Nat → Nat → Nat} (hG : Gv 30 N pf w1) (p : Option Addr) (cap : Nat) (l : List Nat) (hr : rk.Ks (fun _ => True) w1 p l) (hl : l.length ≤ 1000000) :
    Calls Tryd.prog 59 #[.slice p l.length cap, .func (.func 30) #[] #[.pointer (some ⟨N, 0, none⟩)]] w1 fun e B => ∃ b, e = .returned (.map (some b)) ∧ Hid (Below w1.heap.size w1 B ∧ ∃ n f, Mo B b n f ∧ Inv (Sp pf l l.length 0) f) := by
  have hmm := @run_makeMap Tryd.prog
  obtain ⟨MB, hMB⟩ : ∃ MB, w1.heap.size = MB := ⟨_, rfl⟩
  have S0 : Hid (Ms w1 MB pf l 0 0 (w1.alloc (.map #[] 0))) := by
    have := Mo.made w1
    rw [hMB] at this
    exact ⟨(Below.refl _ _).alloc (Nat.le_refl _) _, 0, _, this, Nat.zero_le _, Inv.start.congr fun y q => sp_start pf l y q⟩
  have C : Hid (∀ V, Below w1.heap.size w1 V → ∀ j, j < l.length → ∃ (b o x : Nat), p = some ⟨b, o, none⟩ ∧ V.cell? ⟨b, o + j, none⟩ = some (.int .u64 (x : Int)) ∧ x < 18446744073709551616 ∧ Hid (l[j]? = some x)) := fun V hV j hj => by
    obtain ⟨b, o, hp, _, hi⟩ := hr (by omega)
    exact ⟨b, o, l[j], hp, (hV.cell (p := ⟨b, o + j, none⟩) (World.block_lt_of_cell? w1 ⟨b, o + j, none⟩ (hi j hj).1)).trans (hi j hj).1, (hi j hj).2, by show l[j]? = some l[j]; simp [hj]⟩
  have G := Lib.hid hG
  have FIN : Hid (∀ V, Ms w1 MB pf l l.length 0 V → Below w1.heap.size w1 V ∧ ∃ n f, Mo V MB n f ∧ Inv (Sp pf l l.length 0) f) := fun V ⟨h1, n, f, h2, _, h4⟩ => ⟨h1, n, f, h2, h4⟩
  have HM : Hid (w1.heap.size ≤ MB) := Nat.le_of_eq hMB
  clear hr hG
  obtain ⟨len, hlen⟩ : ∃ len, l.length = len := ⟨_, rfl⟩
  rw [hlen] at C FIN hl ⊢
  clear hlen
  go_enter Tryd.func59, Tryd.ntmps59
  go_wp2_with fail
  go_loopw [15] (fun i wr => ∃ k : Nat, k ≤ len ∧ i = .int .i64 k ∧ Hid (Ms w1 MB pf l k 0 wr)) (fun i _ => len - (intOf i).toNat)
  case atStart => exact ⟨0, by omega, rfl, S0⟩
  case round =>
    obtain ⟨k, hk, rfl, hK⟩ := hrel
    clear S0
    by_cases hkl : k < len
    · obtain ⟨b, o, x, rfl, d0, hx64, hx⟩ := C.out wr hK.out.old k hkl
      have j1 : (0 : Int) ≤ (k : Int) := by omega
      have j2 : (k : Int) < (len : Int) := by omega
      have P : Hid (Calls Tryd.prog 30 #[.int .u64 (x : Int), .pointer (some ⟨N, 0, none⟩)] wr fun e B => ∃ g, e = .returned (.slice (some ⟨g, 0, none⟩) 4 4) ∧ Hid (Ms w1 MB pf l k 0 B ∧ Pc B g (pf x) ∧ g ≠ MB)) :=
        (G.out wr x hK.out.old hx64).mono fun e B ⟨g, he, ho⟩ => ⟨g, he, by
          obtain ⟨h1, h2, h3⟩ := ho.out
          refine ⟨hK.out.below h3, h2, ?_⟩
          obtain ⟨_, n, f, hm, _⟩ := hK.out
          have := hm.lt
          omega⟩
      clear hK
      go_wp2_with fail
      refine P.out.mono ?_
      rintro e w2 ⟨g, rfl, ho⟩
      clear P d0
      have H0 : Hid (Ms w1 MB pf l k 0 w2 ∧ Pc w2 g (pf x)) := ⟨ho.out.1, ho.out.2.1⟩
      have hg := ho.out.2.2
      have HG := Lib.hid hg
      clear ho hg
      go_wp2_with fail
      go_loopw [23] (fun i wr => ∃ j : Nat, j ≤ 4 ∧ i = .int .i64 j ∧ Hid (Ms w1 MB pf l k j wr ∧ Pc wr g (pf x))) (fun i _ => 4 - (intOf i).toNat)
      case atStart => exact ⟨0, by omega, rfl, H0⟩
      case round =>
        obtain ⟨j, hj, rfl, hJ⟩ := hrel
        clear H0
        by_cases hjl : j < 4
        · obtain ⟨⟨hold, n, f, hm, hn, hi⟩, hc⟩ := hJ.out
          have h1 : (0 : Int) ≤ (j : Int) := by omega
          have h2 : (j : Int) < 4 := by omega
          obtain ⟨dq, hq62⟩ := hc j hjl
          obtain ⟨q, hq⟩ : ∃ q, pf x j = q := ⟨_, rfl⟩
          rw [hq] at dq hq62
          have LK := hm.look_ok hq62
          obtain ⟨B1, hB1⟩ : ∃ B1, wr.heap.size = B1 := ⟨_, rfl⟩
          have hBle : wr.heap.size ≤ B1 := by omega
          -- behind the store, whatever was written in the box
          have PUT : Hid (∀ W4 (a : Nat) (s : Bool), Below wr.heap.size wr W4 → stp x q f q = some (a, s) → ∃ w', (Instr.mapUpdate 100 (.map (some MB)) (.int .i64 (q : Int)) (.agg #[.int .u64 (a : Int), .bool s])).run Tryd.prog W4 = .ok () w' ∧ Hid (Ms w1 MB pf l k (j + 1) w' ∧ Pc w' g (pf x))) := fun W4 a s hb hp => by
            have := Ms.put (x := x) hold hm hn hi HM.out hx.out hjl (by omega) (by rw [hq]; exact hq62) hb (a, s) (by rw [hq]; exact hp) g (pf x) HG.out hc
            rw [hq] at this
            exact this
          obtain ⟨W1, hW1⟩ : ∃ W1, wr.alloc (.cells #[.int .u64 0, .bool false] 103) = W1 := ⟨_, rfl⟩
          have k1 : Sb W1 B1 0 false := by rw [← hW1, ← hB1]; exact Sb.new wr
          have b1 : Below wr.heap.size wr W1 := by rw [← hW1]; exact (Below.refl _ _).alloc (Nat.le_refl _) _
          have a0 : W1.cell? ⟨B1, 0, none⟩ = some (.int .u64 0) := k1.c0
          have a1 : W1.cell? ⟨B1, 1, none⟩ = some (.bool false) := k1.c1
          have a2 := k1.fr 0
          have a3 := k1.fr 1
          cases hf : f q with
          | none =>
            have hp : stp x q f q = some (x, false) := by unfold stp; rw [if_pos rfl, hf]
            rw [hf] at LK
            have LK2 : (Instr.lookup 100 (.map (some MB)) (.int .i64 (q : Int)) true).run Tryd.prog wr = .ok (.tuple #[.agg #[.int .u64 0, .bool false], .bool false]) wr := LK
            obtain ⟨W2, hW2⟩ : ∃ W2, (W1.setCell ⟨B1, 0, none⟩ (.int .u64 0)).setCell ⟨B1, 1, none⟩ (.bool false) = W2 := ⟨_, rfl⟩
            have k2 : Sb W2 B1 0 false := by rw [← hW2]; exact (k1.set0 0).set1 false
            have b2 : Below wr.heap.size wr W2 := by rw [← hW2]; exact (b1.setCell hBle _).setCell hBle _
            obtain ⟨W3, hW3⟩ : ∃ W3, W2.setCell ⟨B1, 0, none⟩ (.int .u64 (x : Int)) = W3 := ⟨_, rfl⟩
            have k3 : Sb W3 B1 x false := by rw [← hW3]; exact k2.set0 x
            have b3 : Below wr.heap.size wr W3 := by rw [← hW3]; exact b2.setCell hBle _
            obtain ⟨W4, hW4⟩ : ∃ W4, W3.setCell ⟨B1, 1, none⟩ (.bool false) = W4 := ⟨_, rfl⟩
            have k4 : Sb W4 B1 x false := by rw [← hW4]; exact k3.set1 false
            have b4 : Below wr.heap.size wr W4 := by rw [← hW4]; exact b3.setCell hBle _
            obtain ⟨w', HU, HN⟩ := PUT.out W4 x false b4 hp
            have e0 : W2.cell? ⟨B1, 0, none⟩ = some (.int .u64 0) := k2.c0
            have e1 := k2.fr 0
            have e2 := k3.c0
            have e3 := k3.c1
            have e4 := k3.fr 1
            have e5 := k4.c0
            have e6 := k4.c1
            have g1 : ((x : Int) != (x : Int)) = false := by simp
            clear k1 k2 k3 k4 b1 b2 b3 b4 PUT LK hm hi hc hJ hold hn hf hp
            go_wp2_with fail
            go_roundw
            case rel => exact ⟨j + 1, by omega, by simp, HN⟩
            case measure => simp [intOf]; omega
          | some v =>
            obtain ⟨a, s⟩ := v
            rw [hf] at LK
            have LK2 : (Instr.lookup 100 (.map (some MB)) (.int .i64 (q : Int)) true).run Tryd.prog wr = .ok (.tuple #[.agg #[.int .u64 (a : Int), .bool s], .bool true]) wr := LK
            have hp : stp x q f q = some (a, s || a != x) := by unfold stp; rw [if_pos rfl, hf]
            obtain ⟨W2, hW2⟩ : ∃ W2, (W1.setCell ⟨B1, 0, none⟩ (.int .u64 (a : Int))).setCell ⟨B1, 1, none⟩ (.bool s) = W2 := ⟨_, rfl⟩
            have k2 : Sb W2 B1 a s := by rw [← hW2]; exact (k1.set0 a).set1 s
            have b2 : Below wr.heap.size wr W2 := by rw [← hW2]; exact (b1.setCell hBle _).setCell hBle _
            obtain ⟨s', hs'⟩ : ∃ s', (s || a != x) = s' := ⟨_, rfl⟩
            rw [hs'] at hp
            obtain ⟨W4, hW4⟩ : ∃ W4, W2.setCell ⟨B1, 1, none⟩ (.bool s') = W4 := ⟨_, rfl⟩
            have k4 : Sb W4 B1 a s' := by rw [← hW4]; exact k2.set1 s'
            have b4 : Below wr.heap.size wr W4 := by rw [← hW4]; exact b2.setCell hBle _
            obtain ⟨w', HU, HN⟩ := PUT.out W4 a s' b4 hp
            have e0 := k2.c0
            have e1 := k2.c1
            have e4 := k2.fr 1
            have e5 := k4.c0
            have e6 := k4.c1
            clear k1 k2 k4 b1 b2 b4 PUT LK hm hi hc hJ hold hn hf hp
            cases s
            · by_cases hax : a = x
              · subst hax
                obtain rfl : s' = false := by rw [← hs']; simp
                have g1 : ((a : Int) != (a : Int)) = false := by simp
                clear hs'
                go_wp2_with fail
                go_roundw
                case rel => exact ⟨j + 1, by omega, by simp, HN⟩
                case measure => simp [intOf]; omega
              · obtain rfl : s' = true := by rw [← hs']; simpa using hax
                have g1 : ((a : Int) != (x : Int)) = true := by simp; omega
                have g2 : ¬ (a : Int) = (x : Int) := by omega
                clear hs' hax
                go_wp2_with fail
                go_roundw
                case rel => exact ⟨j + 1, by omega, by simp, HN⟩
                case measure => simp [intOf]; omega
            · obtain rfl : s' = true := by rw [← hs']; rfl
              clear hs'
              go_wp2_with fail
              go_roundw
              case rel => exact ⟨j + 1, by omega, by simp, HN⟩
              case measure => simp [intOf]; omega
        · obtain rfl : j = 4 := by omega
          have HN : Hid (Ms w1 MB pf l (k + 1) 0 wr) := hJ.out.1.key hx.out
          clear hJ
          go_wp2
          go_roundw
          case rel => exact ⟨k + 1, by omega, by simp, HN⟩
          case measure => simp [intOf]; omega
    · obtain rfl : k = len := by omega
      have HN := Lib.hid (FIN.out _ hK.out)
      clear hK FIN C G
      go_wp2
      go_ret
      exact ⟨MB, rfl, HN⟩
end Go.Proofs.YtnhpcjiieagjnaaDoor.ap
namespace Go.Proofs.YtnhpcjiieagjnaaDoor.ap
open Go.RowKit
set_option maxRecDepth 100000 in
set_option maxHeartbeats 8000000 in
theorem own30 {w1 : World} {N : Nat} {pf : Nat → Nat → Nat} (hG : Gv 30 N pf w1) (p : Option Addr) (cap : Nat) (l : List Nat) (hr : rk.Ks (fun _ => True) w1 p l) (hl : l.length ≤ 1000000) :
    Calls Tryd.prog 34 #[.slice p l.length cap, .func (.func 30) #[] #[.pointer (some ⟨N, 0, none⟩)]] w1 (Owns pf l w1) := by
  have T := Lib.hid (stands30 hG p cap l hr hl)
  have C : Hid (∀ V, Below w1.heap.size w1 V → ∀ j, j < l.length → ∃ (b o x : Nat), p = some ⟨b, o, none⟩ ∧ V.cell? ⟨b, o + j, none⟩ = some (.int .u64 (x : Int)) ∧ x < 18446744073709551616 ∧ Hid (l[j]? = some x)) := fun V hV j hj => by
    obtain ⟨b, o, hp, _, hi⟩ := hr (by omega)
    exact ⟨b, o, l[j], hp, (hV.cell (p := ⟨b, o + j, none⟩) (World.block_lt_of_cell? w1 ⟨b, o + j, none⟩ (hi j hj).1)).trans (hi j hj).1, (hi j hj).2, by show l[j]? = some l[j]; simp [hj]⟩
  have G := Lib.hid hG
  clear hr hG
  obtain ⟨len, hlen⟩ : ∃ len, l.length = len := ⟨_, rfl⟩
  have HL := Lib.hid hlen
  rw [hlen] at C hl T ⊢
  clear hlen
  go_enter Tryd.func34, Tryd.ntmps34
  go_wp2_with fail
  refine T.out.mono ?_
  rintro e w2 ⟨b, rfl, ho⟩
  clear T
  obtain ⟨hold2, n, f, hm2, hinv⟩ := ho.out
  obtain ⟨M, hM⟩ : ∃ M, w2.heap.size = M := ⟨_, rfl⟩
  obtain ⟨W1, hW1⟩ : ∃ W1, w2.alloc (.cells #[.map none] 100) = W1 := ⟨_, rfl⟩
  have m1 : W1.heap[M]? = some (.cells #[.map none] 100 (0, 0)) := by rw [← hW1]; exact nb.heap_next hM.symm _
  have a0 : W1.cell? ⟨M, 0, none⟩ = some (.map none) := by rw [nb.cell_of m1]; rfl
  have a1 := nb.frozen_of m1 0
  obtain ⟨W2, hW2⟩ : ∃ W2, W1.setCell ⟨M, 0, none⟩ (.map (some b)) = W2 := ⟨_, rfl⟩
  have m2 : W2.heap[M]? = some (.cells #[.map (some b)] 100 (0, 0)) := by rw [← hW2, nb.heap_set m1]; rfl
  have b2 : Below w2.heap.size w2 W2 := by rw [← hW2, ← hW1]; exact ((Below.refl _ _).alloc (Nat.le_refl _) _).setCell (by rw [hM]; exact Nat.le_refl _) _
  have KA : Hid (∀ x, x ∈ l → (anyF f (pf x) = true ↔ ∃ i, i < 4 ∧ aloneP pf l x i)) := fun x hx => key_any (by rw [HL.out]; exact hinv) hx
  have H0 : Hid (Below w1.heap.size w1 W2 ∧ W2.heap[M]? = some (.cells #[.map (some b)] 100 (0, 0)) ∧ Mo W2 b n f) := ⟨hold2.trans (b2.mono hold2.size), m2, hm2.below b2⟩
  clear hold2 hm2 hinv m1 m2 b2 ho
  go_wp2_with fail
  clear hW1 hW2 a0 a1
  go_loopw [15] (fun i wr => ∃ k : Nat, k ≤ len ∧ i = .int .i64 k ∧ Hid ((∀ q x, q < k → l[q]? = some x → ∃ i, i < 4 ∧ aloneP pf l x i) ∧ Below w1.heap.size w1 wr ∧ wr.heap[M]? = some (.cells #[.map (some b)] 100 (0, 0)) ∧ Mo wr b n f)) (fun i _ => len - (intOf i).toNat)
  case atStart => exact ⟨0, by omega, rfl, fun q x hq => absurd hq (by omega), H0.out⟩
  case round =>
    obtain ⟨k, hk, rfl, hK⟩ := hrel
    clear H0
    by_cases hkl : k < len
    · obtain ⟨b', o, x, rfl, d0, hx64, hx⟩ := C.out wr hK.out.2.1 k hkl
      have j1 : (0 : Int) ≤ (k : Int) := by omega
      have j2 : (k : Int) < (len : Int) := by omega
      have P : Hid (Calls Tryd.prog 30 #[.int .u64 (x : Int), .pointer (some ⟨N, 0, none⟩)] wr fun e B => ∃ g, e = .returned (.slice (some ⟨g, 0, none⟩) 4 4) ∧ Hid (Calls Tryd.prog 61 #[.slice (some ⟨g, 0, none⟩) 4 4, .func (.func 60) #[] #[.pointer (some ⟨M, 0, none⟩)]] B fun e B2 => e = .returned (.bool (anyF f (pf x))) ∧ B = B2) ∧ Hid (Below w1.heap.size w1 B ∧ B.heap[M]? = some (.cells #[.map (some b)] 100 (0, 0)) ∧ Mo B b n f)) :=
        (G.out wr x hK.out.2.1 hx64).mono fun e B ⟨g, he, ho⟩ => ⟨g, he, by
          obtain ⟨h1, h2, h3⟩ := ho.out
          obtain ⟨_, q1, q2, q3⟩ := hK.out
          have r2 := (h3.block M (nb.heap_lt q2)).trans q2
          have r3 := q3.below h3
          exact ⟨contains61 r2 r3 g 4 (pf x) h2, q1.trans (h3.mono q1.size), r2, r3⟩⟩
      have hxl : x ∈ l := List.mem_of_getElem? hx.out
      have KX := Lib.hid (KA.out x hxl)
      have F := Lib.hid hK.out.1
      clear hK
      go_wp2_with fail
      refine P.out.mono ?_
      rintro e w3 ⟨g, rfl, P2, h3⟩
      clear P d0
      go_wp2_with fail
      refine P2.out.mono ?_
      rintro e w4 ⟨rfl, e4⟩
      obtain rfl : w3 = w4 := e4
      clear P2
      cases han : anyF f (pf x)
      · rw [han] at KX
        have hno : Hid (¬ OwnAll pf l) := fun h => absurd (KX.out.2 (h x hxl)) (by decide)
        clear C G KA
        go_wp2_with fail
        go_ret
        exact ⟨false, rfl, ⟨fun h => (by cases h), fun h => absurd h hno.out⟩, h3.out.1⟩
      · rw [han] at KX
        have HN : Hid ((∀ q x, q < k + 1 → l[q]? = some x → ∃ i, i < 4 ∧ aloneP pf l x i) ∧ Below w1.heap.size w1 w3 ∧ w3.heap[M]? = some (.cells #[.map (some b)] 100 (0, 0)) ∧ Mo w3 b n f) := ⟨fun q y hq hy => by
          by_cases e : q = k
          · subst e
            obtain rfl : x = y := Option.some.inj (hx.out.symm.trans hy)
            exact KX.out.1 rfl
          · exact F.out q y (by omega) hy, h3.out⟩
        clear C G KA
        go_wp2_with fail
        go_roundw
        case rel => exact ⟨k + 1, by omega, by simp, HN⟩
        case measure => simp [intOf]; omega
    · obtain rfl : k = len := by omega
      have hyes : Hid (OwnAll pf l) := fun y hy => by
        obtain ⟨q, hq, e⟩ := List.getElem_of_mem hy
        exact hK.out.1 q y (by rw [← HL.out]; exact hq) (by rw [← e]; simp [hq])
      have HO := Lib.hid hK.out.2.1
      clear hK C G KA
      go_wp2
      go_ret
      exact ⟨true, rfl, ⟨fun _ => hyes.out, fun _ => rfl⟩, HO.out⟩
end Go.Proofs.YtnhpcjiieagjnaaDoor.ap
namespace Go.Proofs.YtnhpcjiieagjnaaDoor.ap
open Go.RowKit
set_option maxRecDepth 100000 in
set_option maxHeartbeats 8000000 in
theorem stands32 {w1 : World} {N : Nat} {pf : Nat → Nat → Nat} (hG : Gv 32 N pf w1) (p : Option Addr) (cap : Nat) (l : List Nat) (hr : rk.Ks (fun _ => True) w1 p l) (hl : l.length ≤ 1000000) :
    Calls Tryd.prog 59 #[.slice p l.length cap, .func (.func 32) #[] #[.pointer (some ⟨N, 0, none⟩)]] w1 fun e B => ∃ b, e = .returned (.map (some b)) ∧ Hid (Below w1.heap.size w1 B ∧ ∃ n f, Mo B b n f ∧ Inv (Sp pf l l.length 0) f) := by
  have hmm := @run_makeMap Tryd.prog
  obtain ⟨MB, hMB⟩ : ∃ MB, w1.heap.size = MB := ⟨_, rfl⟩
  have S0 : Hid (Ms w1 MB pf l 0 0 (w1.alloc (.map #[] 0))) := by
    have := Mo.made w1
    rw [hMB] at this
    exact ⟨(Below.refl _ _).alloc (Nat.le_refl _) _, 0, _, this, Nat.zero_le _, Inv.start.congr fun y q => sp_start pf l y q⟩
  have C : Hid (∀ V, Below w1.heap.size w1 V → ∀ j, j < l.length → ∃ (b o x : Nat), p = some ⟨b, o, none⟩ ∧ V.cell? ⟨b, o + j, none⟩ = some (.int .u64 (x : Int)) ∧ x < 18446744073709551616 ∧ Hid (l[j]? = some x)) := fun V hV j hj => by
    obtain ⟨b, o, hp, _, hi⟩ := hr (by omega)
    exact ⟨b, o, l[j], hp, (hV.cell (p := ⟨b, o + j, none⟩) (World.block_lt_of_cell? w1 ⟨b, o + j, none⟩ (hi j hj).1)).trans (hi j hj).1, (hi j hj).2, by show l[j]? = some l[j]; simp [hj]⟩
  have G := Lib.hid hG
  have FIN : Hid (∀ V, Ms w1 MB pf l l.length 0 V → Below w1.heap.size w1 V ∧ ∃ n f, Mo V MB n f ∧ Inv (Sp pf l l.length 0) f) := fun V ⟨h1, n, f, h2, _, h4⟩ => ⟨h1, n, f, h2, h4⟩
  have HM : Hid (w1.heap.size ≤ MB) := Nat.le_of_eq hMB
  clear hr hG
  obtain ⟨len, hlen⟩ : ∃ len, l.length = len := ⟨_, rfl⟩
  rw [hlen] at C FIN hl ⊢
  clear hlen
  go_enter Tryd.func59, Tryd.ntmps59
  go_wp2_with fail
  go_loopw [15] (fun i wr => ∃ k : Nat, k ≤ len ∧ i = .int .i64 k ∧ Hid (Ms w1 MB pf l k 0 wr)) (fun i _ => len - (intOf i).toNat)
  case atStart => exact ⟨0, by omega, rfl, S0⟩
  case round =>
    obtain ⟨k, hk, rfl, hK⟩ := hrel
    clear S0
    by_cases hkl : k < len
    · obtain ⟨b, o, x, rfl, d0, hx64, hx⟩ := C.out wr hK.out.old k hkl
      have j1 : (0 : Int) ≤ (k : Int) := by omega
      have j2 : (k : Int) < (len : Int) := by omega
      have P : Hid (Calls Tryd.prog 32 #[.int .u64 (x : Int), .pointer (some ⟨N, 0, none⟩)] wr fun e B => ∃ g, e = .returned (.slice (some ⟨g, 0, none⟩) 4 4) ∧ Hid (Ms w1 MB pf l k 0 B ∧ Pc B g (pf x) ∧ g ≠ MB)) :=
        (G.out wr x hK.out.old hx64).mono fun e B ⟨g, he, ho⟩ => ⟨g, he, by
          obtain ⟨h1, h2, h3⟩ := ho.out
          refine ⟨hK.out.below h3, h2, ?_⟩
          obtain ⟨_, n, f, hm, _⟩ := hK.out
          have := hm.lt
          omega⟩
      clear hK
      go_wp2_with fail
      refine P.out.mono ?_
      rintro e w2 ⟨g, rfl, ho⟩
      clear P d0
      have H0 : Hid (Ms w1 MB pf l k 0 w2 ∧ Pc w2 g (pf x)) := ⟨ho.out.1, ho.out.2.1⟩
      have hg := ho.out.2.2
      have HG := Lib.hid hg
      clear ho hg
      go_wp2_with fail
      go_loopw [23] (fun i wr => ∃ j : Nat, j ≤ 4 ∧ i = .int .i64 j ∧ Hid (Ms w1 MB pf l k j wr ∧ Pc wr g (pf x))) (fun i _ => 4 - (intOf i).toNat)
      case atStart => exact ⟨0, by omega, rfl, H0⟩
      case round =>
        obtain ⟨j, hj, rfl, hJ⟩ := hrel
        clear H0
        by_cases hjl : j < 4
        · obtain ⟨⟨hold, n, f, hm, hn, hi⟩, hc⟩ := hJ.out
          have h1 : (0 : Int) ≤ (j : Int) := by omega
          have h2 : (j : Int) < 4 := by omega
          obtain ⟨dq, hq62⟩ := hc j hjl
          obtain ⟨q, hq⟩ : ∃ q, pf x j = q := ⟨_, rfl⟩
          rw [hq] at dq hq62
          have LK := hm.look_ok hq62
          obtain ⟨B1, hB1⟩ : ∃ B1, wr.heap.size = B1 := ⟨_, rfl⟩
          have hBle : wr.heap.size ≤ B1 := by omega
          -- behind the store, whatever was written in the box
          have PUT : Hid (∀ W4 (a : Nat) (s : Bool), Below wr.heap.size wr W4 → stp x q f q = some (a, s) → ∃ w', (Instr.mapUpdate 100 (.map (some MB)) (.int .i64 (q : Int)) (.agg #[.int .u64 (a : Int), .bool s])).run Tryd.prog W4 = .ok () w' ∧ Hid (Ms w1 MB pf l k (j + 1) w' ∧ Pc w' g (pf x))) := fun W4 a s hb hp => by
            have := Ms.put (x := x) hold hm hn hi HM.out hx.out hjl (by omega) (by rw [hq]; exact hq62) hb (a, s) (by rw [hq]; exact hp) g (pf x) HG.out hc
            rw [hq] at this
            exact this
          obtain ⟨W1, hW1⟩ : ∃ W1, wr.alloc (.cells #[.int .u64 0, .bool false] 103) = W1 := ⟨_, rfl⟩
          have k1 : Sb W1 B1 0 false := by rw [← hW1, ← hB1]; exact Sb.new wr
          have b1 : Below wr.heap.size wr W1 := by rw [← hW1]; exact (Below.refl _ _).alloc (Nat.le_refl _) _
          have a0 : W1.cell? ⟨B1, 0, none⟩ = some (.int .u64 0) := k1.c0
          have a1 : W1.cell? ⟨B1, 1, none⟩ = some (.bool false) := k1.c1
          have a2 := k1.fr 0
          have a3 := k1.fr 1
          cases hf : f q with
          | none =>
            have hp : stp x q f q = some (x, false) := by unfold stp; rw [if_pos rfl, hf]
            rw [hf] at LK
            have LK2 : (Instr.lookup 100 (.map (some MB)) (.int .i64 (q : Int)) true).run Tryd.prog wr = .ok (.tuple #[.agg #[.int .u64 0, .bool false], .bool false]) wr := LK
            obtain ⟨W2, hW2⟩ : ∃ W2, (W1.setCell ⟨B1, 0, none⟩ (.int .u64 0)).setCell ⟨B1, 1, none⟩ (.bool false) = W2 := ⟨_, rfl⟩
            have k2 : Sb W2 B1 0 false := by rw [← hW2]; exact (k1.set0 0).set1 false
            have b2 : Below wr.heap.size wr W2 := by rw [← hW2]; exact (b1.setCell hBle _).setCell hBle _
            obtain ⟨W3, hW3⟩ : ∃ W3, W2.setCell ⟨B1, 0, none⟩ (.int .u64 (x : Int)) = W3 := ⟨_, rfl⟩
            have k3 : Sb W3 B1 x false := by rw [← hW3]; exact k2.set0 x
            have b3 : Below wr.heap.size wr W3 := by rw [← hW3]; exact b2.setCell hBle _
            obtain ⟨W4, hW4⟩ : ∃ W4, W3.setCell ⟨B1, 1, none⟩ (.bool false) = W4 := ⟨_, rfl⟩
            have k4 : Sb W4 B1 x false := by rw [← hW4]; exact k3.set1 false
            have b4 : Below wr.heap.size wr W4 := by rw [← hW4]; exact b3.setCell hBle _
            obtain ⟨w', HU, HN⟩ := PUT.out W4 x false b4 hp
            have e0 : W2.cell? ⟨B1, 0, none⟩ = some (.int .u64 0) := k2.c0
            have e1 := k2.fr 0
            have e2 := k3.c0
            have e3 := k3.c1
            have e4 := k3.fr 1
            have e5 := k4.c0
            have e6 := k4.c1
            have g1 : ((x : Int) != (x : Int)) = false := by simp
            clear k1 k2 k3 k4 b1 b2 b3 b4 PUT LK hm hi hc hJ hold hn hf hp
            go_wp2_with fail
            go_roundw
            case rel => exact ⟨j + 1, by omega, by simp, HN⟩
            case measure => simp [intOf]; omega
          | some v =>
            obtain ⟨a, s⟩ := v
            rw [hf] at LK
            have LK2 : (Instr.lookup 100 (.map (some MB)) (.int .i64 (q : Int)) true).run Tryd.prog wr = .ok (.tuple #[.agg #[.int .u64 (a : Int), .bool s], .bool true]) wr := LK
            have hp : stp x q f q = some (a, s || a != x) := by unfold stp; rw [if_pos rfl, hf]
            obtain ⟨W2, hW2⟩ : ∃ W2, (W1.setCell ⟨B1, 0, none⟩ (.int .u64 (a : Int))).setCell ⟨B1, 1, none⟩ (.bool s) = W2 := ⟨_, rfl⟩
            have k2 : Sb W2 B1 a s := by rw [← hW2]; exact (k1.set0 a).set1 s
            have b2 : Below wr.heap.size wr W2 := by rw [← hW2]; exact (b1.setCell hBle _).setCell hBle _
            obtain ⟨s', hs'⟩ : ∃ s', (s || a != x) = s' := ⟨_, rfl⟩
            rw [hs'] at hp
            obtain ⟨W4, hW4⟩ : ∃ W4, W2.setCell ⟨B1, 1, none⟩ (.bool s') = W4 := ⟨_, rfl⟩
            have k4 : Sb W4 B1 a s' := by rw [← hW4]; exact k2.set1 s'
            have b4 : Below wr.heap.size wr W4 := by rw [← hW4]; exact b2.setCell hBle _
            obtain ⟨w', HU, HN⟩ := PUT.out W4 a s' b4 hp
            have e0 := k2.c0
            have e1 := k2.c1
            have e4 := k2.fr 1
            have e5 := k4.c0
            have e6 := k4.c1
            clear k1 k2 k4 b1 b2 b4 PUT LK hm hi hc hJ hold hn hf hp
            cases s
            · by_cases hax : a = x
              · subst hax
                obtain rfl : s' = false := by rw [← hs']; simp
                have g1 : ((a : Int) != (a : Int)) = false := by simp
                clear hs'
                go_wp2_with fail
                go_roundw
                case rel => exact ⟨j + 1, by omega, by simp, HN⟩
                case measure => simp [intOf]; omega
              · obtain rfl : s' = true := by rw [← hs']; simpa using hax
                have g1 : ((a : Int) != (x : Int)) = true := by simp; omega
                have g2 : ¬ (a : Int) = (x : Int) := by omega
                clear hs' hax
                go_wp2_with fail
                go_roundw
                case rel => exact ⟨j + 1, by omega, by simp, HN⟩
                case measure => simp [intOf]; omega
            · obtain rfl : s' = true := by rw [← hs']; rfl
              clear hs'
              go_wp2_with fail
              go_roundw
              case rel => exact ⟨j + 1, by omega, by simp, HN⟩
              case measure => simp [intOf]; omega
        · obtain rfl : j = 4 := by omega
          have HN : Hid (Ms w1 MB pf l (k + 1) 0 wr) := hJ.out.1.key hx.out
          clear hJ
          go_wp2
          go_roundw
          case rel => exact ⟨k + 1, by omega, by simp, HN⟩
          case measure => simp [intOf]; omega
    · obtain rfl : k = len := by omega
      have HN := Lib.hid (FIN.out _ hK.out)
      clear hK FIN C G
      go_wp2
      go_ret
      exact ⟨MB, rfl, HN⟩
end Go.Proofs.YtnhpcjiieagjnaaDoor.ap
namespace Go.Proofs.YtnhpcjiieagjnaaDoor.ap
open Go.RowKit
set_option maxRecDepth 100000 in
set_option maxHeartbeats 8000000 in
theorem own32 {w1 : World} {N : Nat} {pf : Nat → Nat → Nat} (hG : Gv 32 N pf w1) (p : Option Addr) (cap : Nat) (l : List Nat) (hr : rk.Ks (fun _ => True) w1 p l) (hl : l.length ≤ 1000000) :
    Calls Tryd.prog 34 #[.slice p l.length cap, .func (.func 32) #[] #[.pointer (some ⟨N, 0, none⟩)]] w1 (Owns pf l w1) := by
  have T := Lib.hid (stands32 hG p cap l hr hl)
  have C : Hid (∀ V, Below w1.heap.size w1 V → ∀ j, j < l.length → ∃ (b o x : Nat), p = some ⟨b, o, none⟩ ∧ V.cell? ⟨b, o + j, none⟩ = some (.int .u64 (x : Int)) ∧ x < 18446744073709551616 ∧ Hid (l[j]? = some x)) := fun V hV j hj => by
    obtain ⟨b, o, hp, _, hi⟩ := hr (by omega)
    exact ⟨b, o, l[j], hp, (hV.cell (p := ⟨b, o + j, none⟩) (World.block_lt_of_cell? w1 ⟨b, o + j, none⟩ (hi j hj).1)).trans (hi j hj).1, (hi j hj).2, by show l[j]? = some l[j]; simp [hj]⟩
  have G := Lib.hid hG
  clear hr hG
  obtain ⟨len, hlen⟩ : ∃ len, l.length = len := ⟨_, rfl⟩
  have HL := Lib.hid hlen
  rw [hlen] at C hl T ⊢
  clear hlen
  go_enter Tryd.func34, Tryd.ntmps34
  go_wp2_with fail
  refine T.out.mono ?_
  rintro e w2 ⟨b, rfl, ho⟩
  clear T
  obtain ⟨hold2, n, f, hm2, hinv⟩ := ho.out
  obtain ⟨M, hM⟩ : ∃ M, w2.heap.size = M := ⟨_, rfl⟩
  obtain ⟨W1, hW1⟩ : ∃ W1, w2.alloc (.cells #[.map none] 100) = W1 := ⟨_, rfl⟩
  have m1 : W1.heap[M]? = some (.cells #[.map none] 100 (0, 0)) := by rw [← hW1]; exact nb.heap_next hM.symm _
  have a0 : W1.cell? ⟨M, 0, none⟩ = some (.map none) := by rw [nb.cell_of m1]; rfl
  have a1 := nb.frozen_of m1 0
  obtain ⟨W2, hW2⟩ : ∃ W2, W1.setCell ⟨M, 0, none⟩ (.map (some b)) = W2 := ⟨_, rfl⟩
  have m2 : W2.heap[M]? = some (.cells #[.map (some b)] 100 (0, 0)) := by rw [← hW2, nb.heap_set m1]; rfl
  have b2 : Below w2.heap.size w2 W2 := by rw [← hW2, ← hW1]; exact ((Below.refl _ _).alloc (Nat.le_refl _) _).setCell (by rw [hM]; exact Nat.le_refl _) _
  have KA : Hid (∀ x, x ∈ l → (anyF f (pf x) = true ↔ ∃ i, i < 4 ∧ aloneP pf l x i)) := fun x hx => key_any (by rw [HL.out]; exact hinv) hx
  have H0 : Hid (Below w1.heap.size w1 W2 ∧ W2.heap[M]? = some (.cells #[.map (some b)] 100 (0, 0)) ∧ Mo W2 b n f) := ⟨hold2.trans (b2.mono hold2.size), m2, hm2.below b2⟩
  clear hold2 hm2 hinv m1 m2 b2 ho
  go_wp2_with fail
  clear hW1 hW2 a0 a1
  go_loopw [15] (fun i wr => ∃ k : Nat, k ≤ len ∧ i = .int .i64 k ∧ Hid ((∀ q x, q < k → l[q]? = some x → ∃ i, i < 4 ∧ aloneP pf l x i) ∧ Below w1.heap.size w1 wr ∧ wr.heap[M]? = some (.cells #[.map (some b)] 100 (0, 0)) ∧ Mo wr b n f)) (fun i _ => len - (intOf i).toNat)
  case atStart => exact ⟨0, by omega, rfl, fun q x hq => absurd hq (by omega), H0.out⟩
  case round =>
    obtain ⟨k, hk, rfl, hK⟩ := hrel
    clear H0
    by_cases hkl : k < len
    · obtain ⟨b', o, x, rfl, d0, hx64, hx⟩ := C.out wr hK.out.2.1 k hkl
      have j1 : (0 : Int) ≤ (k : Int) := by omega
      have j2 : (k : Int) < (len : Int) := by omega
      have P : Hid (Calls Tryd.prog 32 #[.int .u64 (x : Int), .pointer (some ⟨N, 0, none⟩)] wr fun e B => ∃ g, e = .returned (.slice (some ⟨g, 0, none⟩) 4 4) ∧ Hid (Calls Tryd.prog 61 #[.slice (some ⟨g, 0, none⟩) 4 4, .func (.func 60) #[] #[.pointer (some ⟨M, 0, none⟩)]] B fun e B2 => e = .returned (.bool (anyF f (pf x))) ∧ B = B2) ∧ Hid (Below w1.heap.size w1 B ∧ B.heap[M]? = some (.cells #[.map (some b)] 100 (0, 0)) ∧ Mo B b n f)) :=
        (G.out wr x hK.out.2.1 hx64).mono fun e B ⟨g, he, ho⟩ => ⟨g, he, by
          obtain ⟨h1, h2, h3⟩ := ho.out
          obtain ⟨_, q1, q2, q3⟩ := hK.out
          have r2 := (h3.block M (nb.heap_lt q2)).trans q2
          have r3 := q3.below h3
          exact ⟨contains61 r2 r3 g 4 (pf x) h2, q1.trans (h3.mono q1.size), r2, r3⟩⟩
      have hxl : x ∈ l := List.mem_of_getElem? hx.out
      have KX := Lib.hid (KA.out x hxl)
      have F := Lib.hid hK.out.1
      clear hK
      go_wp2_with fail
      refine P.out.mono ?_
      rintro e w3 ⟨g, rfl, P2, h3⟩
      clear P d0
      go_wp2_with fail
      refine P2.out.mono ?_
      rintro e w4 ⟨rfl, e4⟩
      obtain rfl : w3 = w4 := e4
      clear P2
      cases han : anyF f (pf x)
      · rw [han] at KX
        have hno : Hid (¬ OwnAll pf l) := fun h => absurd (KX.out.2 (h x hxl)) (by decide)
        clear C G KA
        go_wp2_with fail
        go_ret
        exact ⟨false, rfl, ⟨fun h => (by cases h), fun h => absurd h hno.out⟩, h3.out.1⟩
      · rw [han] at KX
        have HN : Hid ((∀ q x, q < k + 1 → l[q]? = some x → ∃ i, i < 4 ∧ aloneP pf l x i) ∧ Below w1.heap.size w1 w3 ∧ w3.heap[M]? = some (.cells #[.map (some b)] 100 (0, 0)) ∧ Mo w3 b n f) := ⟨fun q y hq hy => by
          by_cases e : q = k
          · subst e
            obtain rfl : x = y := Option.some.inj (hx.out.symm.trans hy)
            exact KX.out.1 rfl
          · exact F.out q y (by omega) hy, h3.out⟩
        clear C G KA
        go_wp2_with fail
        go_roundw
        case rel => exact ⟨k + 1, by omega, by simp, HN⟩
        case measure => simp [intOf]; omega
    · obtain rfl : k = len := by omega
      have hyes : Hid (OwnAll pf l) := fun y hy => by
        obtain ⟨q, hq, e⟩ := List.getElem_of_mem hy
        exact hK.out.1 q y (by rw [← HL.out]; exact hq) (by rw [← e]; simp [hq])
      have HO := Lib.hid hK.out.2.1
      clear hK C G KA
      go_wp2
      go_ret
      exact ⟨true, rfl, ⟨fun _ => hyes.out, fun _ => rfl⟩, HO.out⟩
end Go.Proofs.YtnhpcjiieagjnaaDoor.ap
namespace Go.Proofs.YtnhpcjiieagjnaaDoor.ap
open Go.RowKit
/-- a key's places in the sketch, counted on from row to row. -/
noncomputable def pfS (c : Cs) (x i : Nat) : Nat := i * c.n + sk.plN c.seed c.n x i
/-- four numbers, the first j of them filled. -/
def v4 (f : Nat → Nat) (j : Nat) : Array Value := #[.int .i64 ((if 0 < j then f 0 else 0 : Nat) : Int), .int .i64 ((if 1 < j then f 1 else 0 : Nat) : Int), .int .i64 ((if 2 < j then f 2 else 0 : Nat) : Int), .int .i64 ((if 3 < j then f 3 else 0 : Nat) : Int)]
theorem v4_set (f : Nat → Nat) (j : Nat) (hj : j < 4) : (v4 f j).setIfInBounds j (.int .i64 (f j : Int)) = v4 f (j + 1) := by
  rcases (show j = 0 ∨ j = 1 ∨ j = 2 ∨ j = 3 by omega) with rfl | rfl | rfl | rfl <;> simp [v4]
theorem v4_any (f : Nat → Nat) (j i : Nat) (hi : i < 4) : ∃ v : Int, (v4 f j)[i]? = some (.int .i64 v) := by
  rcases (show i = 0 ∨ i = 1 ∨ i = 2 ∨ i = 3 by omega) with rfl | rfl | rfl | rfl <;> exact ⟨_, rfl⟩
theorem v4_all (f : Nat → Nat) (i : Nat) (hi : i < 4) : (v4 f 4)[i]? = some (.int .i64 (f i : Int)) := by
  rcases (show i = 0 ∨ i = 1 ∨ i = 2 ∨ i = 3 by omega) with rfl | rfl | rfl | rfl <;> rfl
set_option maxRecDepth 100000 in
set_option maxHeartbeats 4000000 in
theorem sketch31 {w0 W : World} {a : Ad} {c : Cs} {z : Zs} (h : At w0 a c z W) (x : Nat) (hx : x < 18446744073709551616) :
    Calls Tryd.prog 31 #[.pointer (some ⟨a.T, 0, none⟩), .int .u64 (x : Int)] W fun e B => ∃ g, e = .returned (.slice (some ⟨g, 0, none⟩) 4 4) ∧ Hid (W.heap.size ≤ g ∧ Pc B g (pfS c x) ∧ Below W.heap.size W B) := by
  have hmk : (Instr.makeSlice 63 (.int .i64 4) (.int .i64 4)).run Tryd.prog W = .ok (.slice (some ⟨W.heap.size, 0, none⟩) 4 4) (W.alloc (.cells #[.int .i64 0, .int .i64 0, .int .i64 0, .int .i64 0] 3)) := by kernel_rfl
  have T54 := Lib.hid h.get17
  obtain ⟨P, hP⟩ : ∃ P, W.heap.size = P := ⟨_, rfl⟩
  obtain ⟨q1, q2, q3, q4⟩ := h.lts
  have hap : a.S + 9 ≤ P ∧ a.D < P ∧ a.G < P ∧ a.T < P := by omega
  have hn : 0 < c.n ∧ c.n ≤ 4096 := ⟨h.s.sk.pos, h.s.sk.lid⟩
  have S0 : Hid (At w0 a c z (W.alloc (.cells #[.int .i64 0, .int .i64 0, .int .i64 0, .int .i64 0] 3)) ∧ Below P W (W.alloc (.cells #[.int .i64 0, .int .i64 0, .int .i64 0, .int .i64 0] 3)) ∧ (W.alloc (.cells #[.int .i64 0, .int .i64 0, .int .i64 0, .int .i64 0] 3)).heap[P]? = some (.cells (v4 (pfS c x) 0) 3 (0, 0))) :=
    ⟨h.below ((Below.refl _ _).alloc (Nat.le_refl _) _), (Below.refl _ _).alloc (by omega) _, nb.heap_next hP.symm _⟩
  have K : Hid (∀ (V : World) (j : Nat), j < 4 → (At w0 a c z V ∧ Below P W V ∧ V.heap[P]? = some (.cells (v4 (pfS c x) j) 3 (0, 0))) → Calls Tryd.prog 55 #[.pointer (some ⟨a.S, 0, none⟩)] V fun e B => e = .returned (.int .i64 (c.n : Int)) ∧ V = B ∧ Hid (Calls Tryd.prog 56 #[.pointer (some ⟨a.S, 0, none⟩), .int .u64 (x : Int), .int .i64 (j : Int)] V fun e B2 => e = .returned (.int .i64 (sk.plN c.seed c.n x j : Int)) ∧ (∃ v, B2.cell? ⟨P, j, none⟩ = some (.int .i64 v)) ∧ B2.frozen? ⟨P, j, none⟩ = false ∧
      Hid (At w0 a c z (B2.setCell ⟨P, j, none⟩ (.int .i64 (pfS c x j : Int))) ∧ Below P W (B2.setCell ⟨P, j, none⟩ (.int .i64 (pfS c x j : Int))) ∧ (B2.setCell ⟨P, j, none⟩ (.int .i64 (pfS c x j : Int))).heap[P]? = some (.cells (v4 (pfS c x) (j + 1)) 3 (0, 0))))) := fun V j hj ⟨h1, h2, h3⟩ =>
    (sk.width_some h1.s.sk).mono fun e B ⟨he, hB⟩ => ⟨he, hB.symm, (sk.place_some w0 h1.s.sk h1.s.old x j hx hj).mono fun e B2 ⟨he2, hb⟩ => by
      have c3 := (hb.block P (nb.heap_lt h3)).trans h3
      obtain ⟨v, hv⟩ := v4_any (pfS c x) j j hj
      refine ⟨he2, ⟨v, by rw [nb.cell_of c3]; exact hv⟩, nb.frozen_of c3 j, (h1.below hb).apart (nb.Keep.setCell _ _ _ fun h => h rfl) hap, (h2.trans (hb.mono (by have := h2.size; omega))).setCell (Nat.le_refl _) _, ?_⟩
      rw [nb.heap_set c3, v4_set _ _ hj]⟩
  have FIN : Hid (∀ V, (At w0 a c z V ∧ Below P W V ∧ V.heap[P]? = some (.cells (v4 (pfS c x) 4) 3 (0, 0))) → P ≤ P ∧ Pc V P (pfS c x) ∧ Below P W V) := fun V ⟨h1, h2, h3⟩ => ⟨Nat.le_refl _, fun i hi => ⟨by rw [nb.cell_of h3, v4_all _ _ hi], by
    have := sk.plN_lt c.seed c.n x i hn.1
    have h5 : i * c.n ≤ 3 * 4096 := Nat.mul_le_mul (by omega) hn.2
    unfold pfS
    omega⟩, h2⟩
  have HQ : Hid (∀ j : Nat, j < 4 → ∃ q r : Nat, q ≤ 12288 ∧ r < 4096 ∧ IntKind.i64.wrap ((j : Int) * (c.n : Int)) = (q : Int) ∧ sk.plN c.seed c.n x j = r ∧ pfS c x j = q + r) := fun j hj => by
    have := sk.plN_lt c.seed c.n x j hn.1
    have h5 : j * c.n ≤ 3 * 4096 := Nat.mul_le_mul (by omega) hn.2
    refine ⟨j * c.n, sk.plN c.seed c.n x j, by omega, by omega, ?_, rfl, rfl⟩
    rw [show (j : Int) * (c.n : Int) = ((j * c.n : Nat) : Int) by simp]
    simp only [IntKind.wrap_i64]; omega
  rw [hP]
  clear h q1 q2 q3 q4 hap hn
  generalize pfS c x = ps at *
  generalize sk.plN c.seed c.n x = pl at *
  generalize c.n = nn at *
  go_enter Tryd.func31, Tryd.ntmps31
  go_wp2_with fail
  refine T54.out.mono ?_
  rintro e w2 ⟨rfl, e2⟩
  obtain rfl : W = w2 := e2.symm
  go_wp2_with fail
  clear T54 hmk
  go_loopw [13] (fun i wr => ∃ j : Nat, j ≤ 4 ∧ i = .int .i64 j ∧ Hid (At w0 a c z wr ∧ Below P W wr ∧ wr.heap[P]? = some (.cells (v4 ps j) 3 (0, 0)))) (fun i _ => 4 - (intOf i).toNat)
  case atStart => exact ⟨0, by omega, rfl, S0⟩
  case round =>
    obtain ⟨j, hj, rfl, hJ⟩ := hrel
    clear S0
    by_cases hjl : j < 4
    · have K0 := Lib.hid (K.out wr j hjl hJ.out)
      obtain ⟨q, r, hq1, hr1, hq, hr, hqr⟩ := HQ.out j hjl
      rw [hr, hqr] at K0
      have hw2 : IntKind.i64.wrap ((q : Int) + (r : Int)) = ((q + r : Nat) : Int) := by simp only [IntKind.wrap_i64]; omega
      have h1 : (0 : Int) ≤ (j : Int) := by omega
      have h2 : (j : Int) < 4 := by omega
      clear hJ K HQ hr hqr
      go_wp2_with fail
      refine K0.out.mono ?_
      rintro e w3 ⟨rfl, e3, K1⟩
      obtain rfl : wr = w3 := e3
      clear K0
      go_wp2_with fail
      refine K1.out.mono ?_
      rintro e w4 ⟨rfl, ⟨v, d0⟩, d1, HN⟩
      clear K1
      go_wp2_with fail
      go_roundw
      case rel => exact ⟨j + 1, by omega, by simp, by simpa using HN⟩
      case measure => simp [intOf]; omega
    · obtain rfl : j = 4 := by omega
      have HF := Lib.hid (FIN.out _ hJ.out)
      clear hJ K HQ FIN
      go_wp2
      go_ret
      exact ⟨P, rfl, HF⟩
/-- a key's places in the door. -/
noncomputable def pfD (c : Cs) (x i : Nat) : Nat := dr.plN (dr.mixF c.seed) (8 * c.m) x i
set_option maxRecDepth 100000 in
set_option maxHeartbeats 4000000 in
theorem door33 {w0 W : World} {a : Ad} {c : Cs} {z : Zs} (h : At w0 a c z W) (x : Nat) (hx : x < 18446744073709551616) :
    Calls Tryd.prog 33 #[.pointer (some ⟨a.T, 0, none⟩), .int .u64 (x : Int)] W fun e B => ∃ g, e = .returned (.slice (some ⟨g, 0, none⟩) 4 4) ∧ Hid (W.heap.size ≤ g ∧ Pc B g (pfD c x) ∧ Below W.heap.size W B) := by
  have T57 := Lib.hid h.get18
  have hm : 0 < 8 * c.m ∧ 8 * c.m ≤ 32768 := by
    have h1 := h.d.dr.pos
    have h2 := h.d.dr.lid
    rw [h.ln] at h1 h2
    omega
  have T58 : Hid (Calls Tryd.prog 58 #[.pointer (some ⟨a.D, 0, none⟩), .int .u64 (x : Int)] W fun e B => e = .returned (.agg #[.int .i64 (pfD c x 0 : Int), .int .i64 (pfD c x 1 : Int), .int .i64 (pfD c x 2 : Int), .int .i64 (pfD c x 3 : Int)]) ∧ Hid (Below W.heap.size W B)) := by
    have := dr.places_some h.d.dr h.d.old x hx
    rw [h.ln] at this
    exact this
  have PL : Hid (∀ i, pfD c x i < 4611686018427387904) := fun i => by
    have := dr.plN_lt (dr.mixF c.seed) (8 * c.m) x i hm.1
    unfold pfD
    omega
  clear h hm
  generalize pfD c x = ps at *
  go_enter Tryd.func33, Tryd.ntmps33
  go_wp2_with fail
  refine T57.out.mono ?_
  rintro e w2 ⟨rfl, e2⟩
  obtain rfl : W = w2 := e2.symm
  go_wp2_with fail
  refine T58.out.mono ?_
  rintro e w3 ⟨rfl, hb⟩
  clear T57 T58
  obtain ⟨P, hP⟩ : ∃ P, w3.heap.size = P := ⟨_, rfl⟩
  obtain ⟨W1, hW1⟩ : ∃ W1, w3.alloc (.cells #[.int .i64 0, .int .i64 0, .int .i64 0, .int .i64 0] 97) = W1 := ⟨_, rfl⟩
  have m1 : W1.heap[P]? = some (.cells #[.int .i64 0, .int .i64 0, .int .i64 0, .int .i64 0] 97 (0, 0)) := by rw [← hW1]; exact nb.heap_next hP.symm _
  have a0 : W1.cell? ⟨P, 0, none⟩ = some (.int .i64 0) := by rw [nb.cell_of m1]; rfl
  have a1 : W1.cell? ⟨P, 1, none⟩ = some (.int .i64 0) := by rw [nb.cell_of m1]; rfl
  have a2 : W1.cell? ⟨P, 2, none⟩ = some (.int .i64 0) := by rw [nb.cell_of m1]; rfl
  have a3 : W1.cell? ⟨P, 3, none⟩ = some (.int .i64 0) := by rw [nb.cell_of m1]; rfl
  have f0 := nb.frozen_of m1 0
  have f1 := nb.frozen_of m1 1
  have f2 := nb.frozen_of m1 2
  have f3 := nb.frozen_of m1 3
  obtain ⟨W2, hW2⟩ : ∃ W2, (((W1.setCell ⟨P, 0, none⟩ (.int .i64 (ps 0 : Int))).setCell ⟨P, 1, none⟩ (.int .i64 (ps 1 : Int))).setCell ⟨P, 2, none⟩ (.int .i64 (ps 2 : Int))).setCell ⟨P, 3, none⟩ (.int .i64 (ps 3 : Int)) = W2 := ⟨_, rfl⟩
  have m2 : W2.heap[P]? = some (.cells #[.int .i64 (ps 0 : Int), .int .i64 (ps 1 : Int), .int .i64 (ps 2 : Int), .int .i64 (ps 3 : Int)] 97 (0, 0)) := by
    rw [← hW2]
    have h1 := nb.heap_set m1 0 (.int .i64 (ps 0 : Int))
    have h2 := nb.heap_set h1 1 (.int .i64 (ps 1 : Int))
    have h3 := nb.heap_set h2 2 (.int .i64 (ps 2 : Int))
    exact nb.heap_set h3 3 (.int .i64 (ps 3 : Int))
  have hle : w3.heap.size ≤ P := by omega
  have b2 : Below w3.heap.size w3 W2 := by
    rw [← hW2, ← hW1]
    exact (((((Below.refl _ _).alloc (Nat.le_refl _) _).setCell hle _).setCell hle _).setCell hle _).setCell hle _
  have HF : Hid (W.heap.size ≤ P ∧ Pc W2 P ps ∧ Below W.heap.size W W2) := by
    have hz := hb.out.size
    refine ⟨by omega, fun i hi => ⟨?_, PL.out i⟩, hb.out.trans (b2.mono hz)⟩
    rw [nb.cell_of m2]
    rcases (show i = 0 ∨ i = 1 ∨ i = 2 ∨ i = 3 by omega) with rfl | rfl | rfl | rfl <;> rfl
  clear m1 m2 b2 hb PL
  go_wp2_with fail
  go_ret
  exact ⟨P, rfl, HF⟩
/-- the closures of Apart. -/
theorem gv30 {w0 w1 : World} {a : Ad} {c : Cs} {z : Zs} {N : Nat} (h : At w0 a c z w1) (hN : w1.heap[N]? = some (.cells #[.pointer (some ⟨a.T, 0, none⟩)] 25 (0, 0))) : Gv 30 N (pfS c) w1 := fun V x hV hx => by
  have c0 : V.cell? ⟨N, 0, none⟩ = some (.pointer (some ⟨a.T, 0, none⟩)) := by rw [nb.cell_of ((hV.block N (nb.heap_lt hN)).trans hN)]; rfl
  have T := Lib.hid (sketch31 (h.below hV) x hx)
  clear hN h
  go_enter Tryd.func30, Tryd.ntmps30
  go_wp2_with fail
  refine T.out.mono ?_
  rintro e w2 ⟨g, rfl, ho⟩
  go_wp2
  go_ret
  exact ⟨g, rfl, ho⟩
theorem gv32 {w0 w1 : World} {a : Ad} {c : Cs} {z : Zs} {N : Nat} (h : At w0 a c z w1) (hN : w1.heap[N]? = some (.cells #[.pointer (some ⟨a.T, 0, none⟩)] 25 (0, 0))) : Gv 32 N (pfD c) w1 := fun V x hV hx => by
  have c0 : V.cell? ⟨N, 0, none⟩ = some (.pointer (some ⟨a.T, 0, none⟩)) := by rw [nb.cell_of ((hV.block N (nb.heap_lt hN)).trans hN)]; rfl
  have T := Lib.hid (door33 (h.below hV) x hx)
  clear hN h
  go_enter Tryd.func32, Tryd.ntmps32
  go_wp2_with fail
  refine T.out.mono ?_
  rintro e w2 ⟨g, rfl, ho⟩
  go_wp2
  go_ret
  exact ⟨g, rfl, ho⟩
end Go.Proofs.YtnhpcjiieagjnaaDoor.ap
namespace Go.Proofs.YtnhpcjiieagjnaaDoor.ap
open Go.RowKit
/-- are all keys apart, in the sketch and in the door? -/
def AllOwn (c : Cs) (l : List Nat) : Prop := OwnAll (pfS c) l ∧ OwnAll (pfD c) l
def Aparts (c : Cs) (l : List Nat) (w : World) (e : Ending) (B : World) : Prop := ∃ r : Bool, e = .returned (.bool r) ∧ (r = true ↔ AllOwn c l) ∧ Below w.heap.size w B
theorem ks_below {w V : World} {p : Option Addr} {l : List Nat} (h : rk.Ks (fun _ => True) w p l) (hV : Below w.heap.size w V) : rk.Ks (fun _ => True) V p l := fun h0 => by
  obtain ⟨b, o, hp, _, hi⟩ := h h0
  exact ⟨b, o, hp, trivial, fun i hil => ⟨(hV.cell (p := ⟨b, o + i, none⟩) (World.block_lt_of_cell? w ⟨b, o + i, none⟩ (hi i hil).1)).trans (hi i hil).1, (hi i hil).2⟩⟩
set_option maxRecDepth 100000 in
set_option maxHeartbeats 4000000 in
theorem apart14 {w0 w : World} {a : Ad} {c : Cs} {z : Zs} (h : At w0 a c z w) (p : Option Addr) (cap : Nat) (l : List Nat) (hr : rk.Ks (fun _ => True) w p l) (hl : l.length ≤ 1000000) :
    Calls Tryd.prog 14 #[.pointer (some ⟨a.T, 0, none⟩), .slice p l.length cap] w (Aparts c l w) := by
  obtain ⟨N, hN⟩ : ∃ N, w.heap.size = N := ⟨_, rfl⟩
  obtain ⟨W1, hW1⟩ : ∃ W1, w.alloc (.cells #[.pointer (some ⟨a.T, 0, none⟩)] 25) = W1 := ⟨_, rfl⟩
  have m1 : W1.heap[N]? = some (.cells #[.pointer (some ⟨a.T, 0, none⟩)] 25 (0, 0)) := by rw [← hW1]; exact nb.heap_next hN.symm _
  have b1 : Below w.heap.size w W1 := by rw [← hW1]; exact (Below.refl _ _).alloc (Nat.le_refl _) _
  have h1 := h.below b1
  have T1 := Lib.hid (own30 (gv30 h1 m1) p cap l (ks_below hr b1) hl)
  have T2 : Hid (∀ V, Below W1.heap.size W1 V → Calls Tryd.prog 34 #[.slice p l.length cap, .func (.func 32) #[] #[.pointer (some ⟨N, 0, none⟩)]] V (Owns (pfD c) l V)) := fun V hV =>
    own32 (gv32 (h1.below hV) ((hV.block N (nb.heap_lt m1)).trans m1)) p cap l (ks_below (ks_below hr b1) hV) hl
  have HB := Lib.hid b1
  clear h h1 hr m1 b1
  generalize l.length = len at *
  go_enter Tryd.func14, Tryd.ntmps14
  go_wp2_with fail
  refine T1.out.mono ?_
  rintro e w2 ⟨r, rfl, hr, hb2⟩
  have T3 := Lib.hid (T2.out w2 hb2)
  have HB2 : Hid (Below w.heap.size w w2) := HB.out.trans (hb2.mono HB.out.size)
  have HR := Lib.hid hr
  clear T1 T2 hb2 HB hr hW1
  cases r
  · go_wp2_with fail
    go_ret
    exact ⟨false, rfl, ⟨fun h => (by cases h), fun h => HR.out.2 h.1⟩, HB2.out⟩
  · go_wp2_with fail
    refine T3.out.mono ?_
    rintro e w3 ⟨r2, rfl, hr2, hb3⟩
    have HR2 := Lib.hid hr2
    have HB3 := Lib.hid hb3
    clear T3 hr2 hb3
    go_wp2
    go_ret
    exact ⟨r2, by simp, ⟨fun h => ⟨HR.out.1 trivial, HR2.out.1 h⟩, fun h => HR2.out.2 h.2⟩, HB2.out.trans (HB3.out.mono HB2.out.size)⟩
end Go.Proofs.YtnhpcjiieagjnaaDoor.ap
namespace Go.Proofs.YtnhpcjiieagjnaaDoor
open Go.RowKit
open rk (Ez addE es0 estE runE run_next run_cnt)
/-- a key of the slice, as it reads now. -/
theorem key_now {w : World} {p : Option Addr} {l : List Nat} (hr : rk.Ks (fun _ => True) w p l) {V : World} (hV : Below w.heap.size w V) (j : Nat) (hj : j < l.length) : ∃ (b o x : Nat), p = some ⟨b, o, none⟩ ∧ V.cell? ⟨b, o + j, none⟩ = some (.int .u64 (x : Int)) ∧ x < 18446744073709551616 ∧ Hid (l[j]? = some x) := by
  obtain ⟨b, o, hp, _, hi⟩ := hr (by omega)
  exact ⟨b, o, l[j], hp, (hV.cell (p := ⟨b, o + j, none⟩) (World.block_lt_of_cell? w ⟨b, o + j, none⟩ (hi j hj).1)).trans (hi j hj).1, (hi j hj).2, by show l[j]? = some l[j]; simp [hj]⟩
/-- both, behind the first i keys. -/
def Bt (w : World) (a : Ad) (c : Cs) (X : Nat) (l : List Nat) (i : Nat) (V : World) : Prop := Both w a c X i (pushZ c (l.take i) (zs0 c)) (runE c.lim (l.take i)) V ∧ Ok c i (pushZ c (l.take i) (zs0 c)) ∧ Dom c (pushZ c (l.take i) (zs0 c)) (runE c.lim (l.take i))
/-- .. and the tiny one key further. -/
def Bt1 (w : World) (a : Ad) (c : Cs) (X : Nat) (l : List Nat) (i x : Nat) (V : World) : Prop := Both w a c X i (addZ c x (pushZ c (l.take i) (zs0 c))) (runE c.lim (l.take i)) V ∧ Ok c i (pushZ c (l.take i) (zs0 c)) ∧ Dom c (pushZ c (l.take i) (zs0 c)) (runE c.lim (l.take i)) ∧ Fine c (pushZ c (l.take i) (zs0 c))
section
variable {w V : World} {a : Ad} {c : Cs} {X i : Nat} {l : List Nat}
theorem Bt.drewN (h : Bt w a c X l i V) (q : Nat) : Bt w a c X l i (V.drewN q) := ⟨h.1.drewN q, h.2⟩
theorem Bt.add8 (h : Bt w a c X l i V) (x : Nat) (hx : x < 18446744073709551616) (hi : i ≤ 1000000) : Calls Tryd.prog 8 #[.pointer (some ⟨a.T, 0, none⟩), .int .u64 (x : Int)] V fun r B => r = .returned (.tuple #[]) ∧ Hid (Bt1 w a c X l i x B) :=
  (h.1.add8 x hx h.2.1.1 (Nat.le_trans h.2.1.2 hi)).mono fun _ _ ⟨he, ho⟩ => ⟨he, ho.out, h.2.1, h.2.2, h.1.ti.fine⟩
theorem Bt1.add9 {x : Nat} (h : Bt1 w a c X l i x V) (hx : l[i]? = some x) (hi : i ≤ 1000000) : Calls Tryd.prog 9 #[.pointer (some ⟨X, 0, none⟩), .int .u64 (x : Int)] V fun r B => r = .returned (.tuple #[]) ∧ Hid (Bt w a c X l (i + 1) B) := by
  have hc : (runE c.lim (l.take i)).cnt < c.lim := by rw [← h.2.2.1.cnt]; exact h.2.1.1
  refine (h.1.add9 x hc hi).mono fun _ B ⟨he, ho⟩ => ⟨he, ?_⟩
  show Bt w a c X l (i + 1) B
  unfold Bt
  rw [push_next c l (zs0 c) i x hx, run_next c.lim l i x hx]
  exact ⟨ho.out, h.2.1.add x, h.2.2.1.add h.2.2.2 x⟩
end
set_option maxRecDepth 100000 in
set_option maxHeartbeats 20000000 in
theorem below_some (k : Int) (seed : Nat) (hseed : seed < 18446744073709551616) (p : Option Addr) (cap : Nat) (l : List Nat) (w : World) (hs : mx.Since w w) (hl : l.length ≤ 80) (hr : rk.Ks (fun _ => True) w p l) :
    Calls Tryd.prog 3 #[.int .i64 k, .int .u64 (seed : Int), .slice p l.length cap] w fun e B => e = .returned (.bool true) ∧ Below w.heap.size w B := by
  have N6 := Lib.hid (both_new (min k 500) seed hseed w hs)
  obtain ⟨c, hc⟩ : ∃ c, csN (min k 500) seed = c := ⟨_, rfl⟩
  have OK : Ok c 0 (zs0 c) := by rw [← hc]; exact Ok.start (min k 500) seed
  rw [hc] at N6
  have S0 : Hid (∀ a X V, Both w a c X 0 (zs0 c) es0 V → Bt w a c X l 0 V) := fun a X V h => ⟨h, OK, Dom.start c⟩
  have C : Hid (∀ V, Below w.heap.size w V → ∀ j, j < l.length → ∃ (b o x : Nat), p = some ⟨b, o, none⟩ ∧ V.cell? ⟨b, o + j, none⟩ = some (.int .u64 (x : Int)) ∧ x < 18446744073709551616 ∧ Hid (l[j]? = some x)) := fun V hV j hj => key_now hr hV j hj
  clear hr hs hseed hc OK
  obtain ⟨len, hlen⟩ : ∃ len, l.length = len := ⟨_, rfl⟩
  have HL := Lib.hid hlen
  rw [hlen] at C hl ⊢
  go_enter Tryd.func3, Tryd.ntmps3
  go_wp2_with fail
  refine N6.out.mono ?_
  rintro e w1 ⟨a, rfl, N7⟩
  go_wp2_with fail
  refine N7.out.mono ?_
  rintro e w2 ⟨X, rfl, h2⟩
  have H0 : Hid (Bt w a c X l 0 w2) := S0.out _ _ _ h2.out
  clear N6 N7 h2 S0
  go_wp2_with fail
  go_loopw [9] (fun i wr => ∃ j : Nat, j ≤ len ∧ i = .int .i64 j ∧ Hid (Bt w a c X l j wr)) (fun i _ => len - (intOf i).toNat)
  case atStart => exact ⟨0, by omega, rfl, H0⟩
  case round =>
    obtain ⟨i, hi, rfl, hI⟩ := hrel
    clear H0
    by_cases hlt : i < len
    · obtain ⟨b, o, x, rfl, d0, hx64, hx⟩ := C.out wr hI.out.1.old i hlt
      have A8 := Lib.hid (hI.out.add8 x hx64 (by omega))
      have h1 : (0 : Int) ≤ (i : Int) := by omega
      have h2 : (i : Int) < (len : Int) := by omega
      clear hI
      go_wp2_with fail
      refine A8.out.mono ?_
      rintro e w3 ⟨rfl, H3⟩
      clear A8 d0
      obtain ⟨b', o', x', hp, d0, _, hx'⟩ := C.out w3 H3.out.1.old i hlt
      simp only [Option.some.injEq, Addr.mk.injEq, and_true] at hp
      obtain ⟨rfl, rfl⟩ := hp
      obtain rfl : x = x' := Option.some.inj (hx.out.symm.trans hx'.out)
      have A9 := Lib.hid (H3.out.add9 hx.out (by omega))
      clear H3 hx hx'
      go_wp2_with fail
      refine A9.out.mono ?_
      rintro e w4 ⟨rfl, H4⟩
      clear A9 d0
      go_wp2_with fail
      go_loopw [10] (fun q wr => ∃ k : Nat, k ≤ len ∧ q = .int .i64 k ∧ Hid (Bt w a c X l (i + 1) wr)) (fun q _ => len - (intOf q).toNat)
      case atStart => exact ⟨0, by omega, rfl, H4⟩
      case round =>
        obtain ⟨j, hj, rfl, hJ⟩ := hrel
        clear H4
        by_cases hjl : j < len
        · obtain ⟨b', o', y, hp, d0, hy64, hy⟩ := C.out wr hJ.out.1.old j hjl
          simp only [Option.some.injEq, Addr.mk.injEq, and_true] at hp
          obtain ⟨rfl, rfl⟩ := hp
          have j1 : (0 : Int) ≤ (j : Int) := by omega
          have j2 : (j : Int) < (len : Int) := by omega
          obtain ⟨z, hz⟩ : ∃ z, pushZ c (l.take (i + 1)) (zs0 c) = z := ⟨_, rfl⟩
          obtain ⟨e, he⟩ : ∃ e, runE c.lim (l.take (i + 1)) = e := ⟨_, rfl⟩
          obtain ⟨EZ, hEZ⟩ : ∃ EZ, estZ c y z = EZ := ⟨_, rfl⟩
          obtain ⟨EE, hEE⟩ : ∃ EE, estE y e = EE := ⟨_, rfl⟩
          have hle : EE ≤ EZ := by
            have := hJ.out.2.2.est y
            rw [hz, he, hEZ, hEE] at this
            exact this
          have hlt' : ¬ (EZ : Int) < (EE : Int) := by omega
          have CY : Hid (∀ V, Both w a c X (i + 1) z e V → V.cell? ⟨b, o + j, none⟩ = some (.int .u64 (y : Int))) := fun V hV => by
            obtain ⟨b', o', y', hp, d0, _, hy'⟩ := C.out V hV.old j hjl
            simp only [Option.some.injEq, Addr.mk.injEq, and_true] at hp
            obtain ⟨rfl, rfl⟩ := hp
            obtain rfl : y = y' := Option.some.inj (hy.out.symm.trans hy'.out)
            exact d0
          have J1 : Hid (Both w a c X (i + 1) z e wr.drew) := by
            have := hJ.out.1.drewN 1
            rw [hz, he] at this
            exact this
          have E10 : Hid (Calls Tryd.prog 10 #[.pointer (some ⟨a.T, 0, none⟩), .int .u64 (y : Int)] wr.drew fun r B => r = .returned (.int .i64 (EZ : Int)) ∧ B.cell? ⟨b, o + j, none⟩ = some (.int .u64 (y : Int)) ∧ Hid (Both w a c X (i + 1) z e B)) := by
            have := J1.out.est10 y hy64
            rw [hEZ] at this
            exact this.mono fun r B ⟨h1, h2⟩ => ⟨h1, CY.out B h2.out, h2⟩
          have E11 : Hid (∀ V, Hid (Both w a c X (i + 1) z e V) → Calls Tryd.prog 11 #[.pointer (some ⟨X, 0, none⟩), .int .u64 (y : Int)] V fun r B => r = .returned (.int .i64 (EE : Int)) ∧ B.cell? ⟨b, o + j, none⟩ = some (.int .u64 (y : Int)) ∧ Hid (Both w a c X (i + 1) z e B)) := fun V hV => by
            have := hV.out.est11 y
            rw [hEE] at this
            exact this.mono fun r B ⟨h1, h2⟩ => ⟨h1, CY.out B h2.out, h2⟩
          have K0 := Lib.hid (CY.out _ J1.out)
          have FIN : Hid (∀ V, Hid (Both w a c X (i + 1) z e V) → Hid (Bt w a c X l (i + 1) V)) := fun V hV => by
            show Bt w a c X l (i + 1) V
            have h3 := hJ.out.2
            unfold Bt
            rw [hz, he] at h3 ⊢
            exact ⟨hV.out, h3⟩
          clear hJ hz he hEZ hEE hle hy CY J1 C d0
          go_wp2_with fail
          go_region_held3 (fun V => V.cell? ⟨b, o + j, none⟩ = some (.int .u64 (y : Int))) (first | exact K0.out | assumption) (first
            | (go_at_call 11; refine (E11.out _ h10).mono ?_; rintro r w6 ⟨rfl, k6, h11⟩)
            | (go_at_call 10; refine E10.out.mono ?_; rintro r w5 ⟨rfl, k5, h10⟩))
          go_wp2
          go_roundw
          case rel => exact ⟨j + 1, by omega, by simp, FIN.out _ h11⟩
          case measure => simp [intOf]; omega
        · obtain rfl : j = len := by omega
          go_wp2
          go_roundw
          case rel => exact ⟨i + 1, by omega, by simp, hJ⟩
          case measure => simp [intOf]; omega
    · obtain rfl : i = len := by omega
      have hcnt := hI.out.2.2.cnt
      have K12 := Lib.hid hI.out.1.cnt12
      have K13 := Lib.hid hI.out.1.cnt13
      have HO := Lib.hid hI.out.1.old
      rw [hcnt] at K12
      generalize (runE c.lim (l.take i)).cnt = m at *
      have he : ((m : Int) == (m : Int)) = true := by simp
      have AW := Lib.hid (rk.awake_any wr)
      clear hI hcnt C HL
      go_wp2_with (first
        | (go_at_call 12; refine K12.out.mono ?_; rintro e w3 ⟨rfl, e3⟩; obtain rfl : wr = w3 := e3)
        | (go_at_call 13; refine K13.out.mono ?_; rintro e w3 ⟨rfl, e3⟩; obtain rfl : wr = w3 := e3)
        | (go_at_call 5; refine AW.out.mono ?_; rintro e w4 ⟨rfl, hb4⟩))
      go_ret
      exact ⟨rfl, HO.out.trans (hb4.out.mono HO.out.size)⟩
theorem below_walk (k : Int) (seed : Nat) (hseed : seed < 18446744073709551616) (p : Option Addr) (cap : Nat) (l : List Nat) (w : World) (hs : mx.Since w w) (hr : rk.Ks (fun _ => True) w p l) :
    Calls Tryd.prog 3 #[.int .i64 k, .int .u64 (seed : Int), .slice p l.length cap] w fun e B => e = .returned (.bool true) ∧ Below w.heap.size w B := by
  by_cases hl : l.length ≤ 80
  · exact below_some k seed hseed p cap l w hs hl hr
  · have h : (80 : Int) < (l.length : Int) := by omega
    have AW := Lib.hid (rk.awake_any w)
    clear hr hl hs
    generalize l.length = len at *
    go_enter Tryd.func3, Tryd.ntmps3
    go_wp2_with fail
    refine AW.out.mono ?_
    rintro e w1 ⟨rfl, hb⟩
    go_wp2
    go_ret
    exact ⟨rfl, hb.out⟩
end Go.Proofs.YtnhpcjiieagjnaaDoor
namespace Go.Proofs.YtnhpcjiieagjnaaDoor.ap
open Go.RowKit
/-- An operation of a region is taken first, its slot written out. -/
theorem take_w {P : Program} {md : Region.Mode} {ops : Array Oper} {Q : Exit → Act → World → Prop} {S : World → Prop} {i d : Nat} {oi : Oper} {v : Value} {fuel : Nat} {listed : Array Bool} {a : Act} {w : World} (hi : ops[i]? = some oi) (hd : oi.dst = some d)
    (hs : Region.noSelect ops = true) (hf : Region.free md ops listed i = true) (hr : (Region.ready md ops listed).contains i = true)
    (hQ : ∀ c a w, Q (.panic c) (a.put (some d) v) w → Q (.panic c) a w) (hy : YieldsIf P ops S oi v a) (hS : S w)
    (h : wpAnyH P md ops Q S fuel (listed.setIfInBounds i true) (a.put (some d) v) w) : wpAnyH P md ops Q S (fuel + 1) listed a w :=
  wpAnyH_take hi hs hf hr (by rw [hd]; exact hQ) hy hS (by rw [hd]; exact h)
/-- has the key a place of its own, by the documents, in the sketch, in the door? -/
noncomputable def LS (c : Cs) (l : List Nat) (x : Nat) : Bool := sk.lonely c.seed c.n x l
noncomputable def LD (c : Cs) (l : List Nat) (x : Nat) : Bool := dr.lonely (dr.mixF c.seed) (8 * c.m) x l
def RAp (c : Cs) (l : List Nat) (w : World) (e : Ending) (B : World) : Prop := ∃ r : Bool, e = .returned (.bool r) ∧ (r = true ↔ ∀ x ∈ l, LS c l x = true ∧ LD c l x = true) ∧ Below w.heap.size w B
set_option maxRecDepth 100000 in
set_option maxHeartbeats 8000000 in
theorem refapart15 (c : Cs) (hn : 0 < c.n ∧ c.n ≤ 4096) (hm : 0 < c.m ∧ c.m ≤ 4096) (hs : c.seed < 18446744073709551616) (a1 : Option Addr) (k1 : Nat) (a2 : Option Addr) (k2 : Nat) (p : Option Addr) (cap : Nat) (l : List Nat) (w : World) (hr : rk.Ks (fun _ => True) w p l) (hcap : l.length ≤ cap) (hl : l.length ≤ 100000) :
    Calls Tryd.prog 15 #[tv c 0 0 (.slice a1 4 k1) (.slice a2 (8 * c.m) k2), .slice p l.length cap] w (RAp c l w) := by
  obtain ⟨N, hN⟩ : ∃ N, w.heap.size = N := ⟨_, rfl⟩
  obtain ⟨W1, hW1⟩ : ∃ W1, w.alloc (.cells (tc c 0 0 (.slice a1 4 k1) (.slice a2 (8 * c.m) k2)) 42) = W1 := ⟨_, rfl⟩
  have m1 : W1.heap[N]? = some (.cells (tc c 0 0 (.slice a1 4 k1) (.slice a2 (8 * c.m) k2)) 42 (0, 0)) := by rw [← hW1]; exact nb.heap_next hN.symm _
  have b1 : Below w.heap.size w W1 := by rw [← hW1]; exact (Below.refl _ _).alloc (Nat.le_refl _) _
  -- the box, the keys, at any world since
  obtain ⟨St, hSt⟩ : ∃ St : World → Prop, (fun V => Below w.heap.size w V ∧ V.heap[N]? = some (.cells (tc c 0 0 (.slice a1 4 k1) (.slice a2 (8 * c.m) k2)) 42 (0, 0))) = St := ⟨_, rfl⟩
  have S0 : Hid (St W1) := by subst hSt; exact ⟨b1, m1⟩
  have SB : Hid (∀ V B, St V → Below V.heap.size V B → St B) := by
    subst hSt
    exact fun V B h hb => ⟨h.1.trans (hb.mono h.1.size), (hb.block N (nb.heap_lt h.2)).trans h.2⟩
  have SO : Hid (∀ V, St V → Below w.heap.size w V) := by subst hSt; exact fun V h => h.1
  have SC : Hid (∀ V, St V → V.cell? ⟨N, 0, none⟩ = some (.slice a1 4 k1) ∧ V.cell? ⟨N, 1, none⟩ = some (.int .i64 (c.n : Int)) ∧ V.cell? ⟨N, 2, none⟩ = some (.int .u64 (c.seed : Int)) ∧ V.cell? ⟨N, 3, none⟩ = some (.slice a2 (8 * c.m) k2) ∧ V.cell? ⟨N, 4, none⟩ = some (.int .u64 (c.seed : Int))) := by
    subst hSt
    intro V h
    rw [nb.cell_of h.2, nb.cell_of h.2, nb.cell_of h.2, nb.cell_of h.2, nb.cell_of h.2]
    exact ⟨rfl, rfl, rfl, rfl, rfl⟩
  have C : Hid (∀ V, St V → ∀ j, j < l.length → ∃ (b o x : Nat), p = some ⟨b, o, none⟩ ∧ V.cell? ⟨b, o + j, none⟩ = some (.int .u64 (x : Int)) ∧ x < 18446744073709551616 ∧ Hid (l[j]? = some x)) := fun V hV j hj => key_now hr (SO.out V hV) j hj
  have QS : Hid (∀ V, St V → 0 < l.length → nb.Q sk.eu V (.slice p l.length cap) l ∧ dr.Q dr.eu V (.slice p l.length cap) l) := fun V hV h0 => by
    obtain ⟨b, o, hp, _, hi⟩ := ks_below hr (SO.out V hV) h0
    subst hp
    have hq : ∀ i (h : i < l.length), V.cell? ⟨b, o + i, none⟩ = some (.int .u64 (l[i] : Int)) := fun i h => (hi i h).1
    exact ⟨.inr ⟨b, o, cap, rfl, hcap, hq⟩, .inr ⟨b, o, cap, rfl, hcap, hq⟩⟩
  have LO : Hid (∀ y ∈ l, y < 18446744073709551616) := fun y hy => by
    obtain ⟨q, hq, e⟩ := List.getElem_of_mem hy
    obtain ⟨b, o, _, _, hi⟩ := hr (by omega)
    rw [← e]
    exact (hi q hq).2
  have P35 : Hid (∀ (V : World) (x : Nat), St V → 0 < l.length → x < 18446744073709551616 → Calls Tryd.prog 35 #[.agg #[.slice a1 4 k1, .int .i64 (c.n : Int), .int .u64 (c.seed : Int)], .int .u64 (x : Int), .slice p l.length cap] V fun e B => e = .returned (.bool (LS c l x)) ∧ Hid (St B)) := fun V x hV h0 hx =>
    (sk.lonely_any c.n c.seed x hx hn.1 hn.2 a1 4 k1 V _ l (QS.out V hV h0).1 LO.out hl).mono fun e B ⟨he, hb⟩ => ⟨he, SB.out V B hV hb.out⟩
  have P36 : Hid (∀ (V : World) (x : Nat), St V → 0 < l.length → x < 18446744073709551616 → Calls Tryd.prog 36 #[.agg #[.slice a2 (8 * c.m) k2, .int .u64 (c.seed : Int)], .int .u64 (x : Int), .slice p l.length cap] V fun e B => e = .returned (.bool (LD c l x)) ∧ Hid (St B)) := fun V x hV h0 hx =>
    (dr.lonely_any (8 * c.m) c.seed x hs hx (by omega) (by omega) a2 k2 V _ l (QS.out V hV h0).2 LO.out hl).mono fun e B ⟨he, hb⟩ => ⟨he, SB.out V B hV hb.out⟩
  obtain ⟨len, hlen⟩ : ∃ len, l.length = len := ⟨_, rfl⟩
  have HL := Lib.hid hlen
  rw [hlen] at C QS P35 P36 hl ⊢
  clear hr hcap m1 b1 hlen QS LO hSt hn hm hs
  generalize 8 * c.m = em at *
  generalize c.n = nn at *
  generalize c.seed = sd at *
  go_enter Tryd.func15, Tryd.ntmps15
  go_wp2_with fail
  clear hW1
  go_loopw [5] (fun i wr => ∃ k : Nat, k ≤ len ∧ i = .int .i64 k ∧ Hid ((∀ q y, q < k → l[q]? = some y → LS c l y = true ∧ LD c l y = true) ∧ St wr)) (fun i _ => len - (intOf i).toNat)
  case atStart => exact ⟨0, by omega, rfl, fun q y hq => absurd hq (by omega), S0.out⟩
  case round =>
    obtain ⟨k, hk, rfl, hK⟩ := hrel
    clear S0
    by_cases hkl : k < len
    · have F := Lib.hid hK.out.1
      have H := Lib.hid hK.out.2
      obtain ⟨b, o, x, rfl, d0, hx64, hx⟩ := C.out wr hK.out.2 k hkl
      clear hK
      have j1 : (0 : Int) ≤ (k : Int) := by omega
      have j2 : (k : Int) < (len : Int) := by omega
      have hxl : x ∈ l := List.mem_of_getElem? hx.out
      have CK : Hid (∀ V, St V → V.cell? ⟨N, 0, none⟩ = some (.slice a1 4 k1) ∧ V.cell? ⟨N, 1, none⟩ = some (.int .i64 (nn : Int)) ∧ V.cell? ⟨N, 2, none⟩ = some (.int .u64 (sd : Int)) ∧ V.cell? ⟨N, 3, none⟩ = some (.slice a2 em k2) ∧ V.cell? ⟨N, 4, none⟩ = some (.int .u64 (sd : Int)) ∧ V.cell? ⟨b, o + k, none⟩ = some (.int .u64 (x : Int))) := fun V hV => by
        obtain ⟨b', o', x', hp, hd, _, hx'⟩ := C.out V hV k hkl
        simp only [Option.some.injEq, Addr.mk.injEq, and_true] at hp
        obtain ⟨rfl, rfl⟩ := hp
        obtain rfl : x = x' := Option.some.inj (hx.out.symm.trans hx'.out)
        obtain ⟨s0, s1, s2, s3, s4⟩ := SC.out V hV
        exact ⟨s0, s1, s2, s3, s4, hd⟩
      have HD : Hid (St wr.drew) := SB.out wr _ H.out ((Below.refl _ _).drew)
      have K0 := Lib.hid (CK.out _ HD.out)
      have hlen0 : 0 < len := by omega
      have E35 : Hid (Calls Tryd.prog 35 #[.agg #[.slice a1 4 k1, .int .i64 (nn : Int), .int .u64 (sd : Int)], .int .u64 (x : Int), .slice (some ⟨b, o, none⟩) len cap] wr.drew fun e B => e = .returned (.bool (LS c l x)) ∧ (B.cell? ⟨N, 0, none⟩ = some (.slice a1 4 k1) ∧ B.cell? ⟨N, 1, none⟩ = some (.int .i64 (nn : Int)) ∧ B.cell? ⟨N, 2, none⟩ = some (.int .u64 (sd : Int)) ∧ B.cell? ⟨N, 3, none⟩ = some (.slice a2 em k2) ∧ B.cell? ⟨N, 4, none⟩ = some (.int .u64 (sd : Int)) ∧ B.cell? ⟨b, o + k, none⟩ = some (.int .u64 (x : Int))) ∧ Hid (St B)) :=
        (P35.out _ x HD.out hlen0 hx64).mono fun e B ⟨he, hb⟩ => ⟨he, CK.out B hb.out, hb⟩
      have E36 : Hid (∀ V, Hid (St V) → Calls Tryd.prog 36 #[.agg #[.slice a2 em k2, .int .u64 (sd : Int)], .int .u64 (x : Int), .slice (some ⟨b, o, none⟩) len cap] V fun e B => e = .returned (.bool (LD c l x)) ∧ (B.cell? ⟨N, 0, none⟩ = some (.slice a1 4 k1) ∧ B.cell? ⟨N, 1, none⟩ = some (.int .i64 (nn : Int)) ∧ B.cell? ⟨N, 2, none⟩ = some (.int .u64 (sd : Int)) ∧ B.cell? ⟨N, 3, none⟩ = some (.slice a2 em k2) ∧ B.cell? ⟨N, 4, none⟩ = some (.int .u64 (sd : Int)) ∧ B.cell? ⟨b, o + k, none⟩ = some (.int .u64 (x : Int))) ∧ Hid (St B)) := fun V hV =>
        (P36.out V x hV.out hlen0 hx64).mono fun e B ⟨he, hb⟩ => ⟨he, CK.out B hb.out, hb⟩
      clear P35 P36 C SC SB CK hlen0 d0
      cases hS : LS c l x
      · have hno : Hid (¬ ∀ x ∈ l, LS c l x = true ∧ LD c l x = true) := fun h => by
          have := (h x hxl).1
          rw [hS] at this
          cases this
        rw [hS] at E35
        clear E36 F HL hS hxl hx
        go_wp2_with fail
        refine wp_region_held_drew (S := fun B => B.cell? ⟨N, 0, none⟩ = some (.slice a1 4 k1) ∧ B.cell? ⟨N, 1, none⟩ = some (.int .i64 (nn : Int)) ∧ B.cell? ⟨N, 2, none⟩ = some (.int .u64 (sd : Int)) ∧ B.cell? ⟨N, 3, none⟩ = some (.slice a2 em k2) ∧ B.cell? ⟨N, 4, none⟩ = some (.int .u64 (sd : Int)) ∧ B.cell? ⟨b, o + k, none⟩ = some (.int .u64 (x : Int))) (by kernel_rfl) K0.out (fun hHeld => ?_)
        refine take_w (i := 0) (d := 12) (v := ?_) rfl rfl (by kernel_rfl) (by kernel_rfl) (by kernel_rfl) (fun _ _ _ h => h) (Or.inl ⟨by rfl, ?_⟩) (by assumption) ?_
        rotate_left
        · (intro w hSw; (try dsimp only at hSw); go_simp; try with_reducible rfl)
        try simp only [Act.put, List.setIfInBounds_toArray, List.set_cons_zero, List.set_cons_succ]
        refine take_w (i := 1) (d := 13) (v := ?_) rfl rfl (by kernel_rfl) (by kernel_rfl) (by kernel_rfl) (fun _ _ _ h => h) (Or.inl ⟨by rfl, ?_⟩) (by assumption) ?_
        rotate_left
        · (intro w hSw; (try dsimp only at hSw); go_simp; try with_reducible rfl)
        try simp only [Act.put, List.setIfInBounds_toArray, List.set_cons_zero, List.set_cons_succ]
        refine take_w (i := 2) (d := 14) (v := ?_) rfl rfl (by kernel_rfl) (by kernel_rfl) (by kernel_rfl) (fun _ _ _ h => h) (Or.inl ⟨by rfl, ?_⟩) (by assumption) ?_
        rotate_left
        · (intro w hSw; (try dsimp only at hSw); go_simp; try with_reducible rfl)
        try simp only [Act.put, List.setIfInBounds_toArray, List.set_cons_zero, List.set_cons_succ]
        refine take_w (i := 3) (d := 15) (v := ?_) rfl rfl (by kernel_rfl) (by kernel_rfl) (by kernel_rfl) (fun _ _ _ h => h) (Or.inl ⟨by rfl, ?_⟩) (by assumption) ?_
        rotate_left
        · (intro w hSw; (try dsimp only at hSw); go_simp; try with_reducible rfl)
        try simp only [Act.put, List.setIfInBounds_toArray, List.set_cons_zero, List.set_cons_succ]
        refine take_w (i := 4) (d := 16) (v := ?_) rfl rfl (by kernel_rfl) (by kernel_rfl) (by kernel_rfl) (fun _ _ _ h => h) (Or.inl ⟨by rfl, ?_⟩) (by assumption) ?_
        rotate_left
        · (intro w hSw; (try dsimp only at hSw); go_simp; try with_reducible rfl)
        try simp only [Act.put, List.setIfInBounds_toArray, List.set_cons_zero, List.set_cons_succ]
        refine take_w (i := 5) (d := 17) (v := ?_) rfl rfl (by kernel_rfl) (by kernel_rfl) (by kernel_rfl) (fun _ _ _ h => h) (Or.inl ⟨by rfl, ?_⟩) (by assumption) ?_
        rotate_left
        · (intro w hSw; (try dsimp only at hSw); go_simp; try with_reducible rfl)
        try simp only [Act.put, List.setIfInBounds_toArray, List.set_cons_zero, List.set_cons_succ]
        refine take_w (i := 6) (d := 18) (v := ?_) rfl rfl (by kernel_rfl) (by kernel_rfl) (by kernel_rfl) (fun _ _ _ h => h) (Or.inl ⟨by rfl, ?_⟩) (by assumption) ?_
        rotate_left
        · (intro w hSw; (try dsimp only at hSw); go_simp; try with_reducible rfl)
        try simp only [Act.put, List.setIfInBounds_toArray, List.set_cons_zero, List.set_cons_succ]
        refine wpAnyH_ready (rs := [7]) (by kernel_rfl) (by simp) ?_
        refine AllReadyH.cons (o := _) rfl (fun K hK => ?_) AllReadyH.nil
        go_simp
        go_at_call 35
        refine E35.out.mono ?_
        rintro e w5 ⟨rfl, k5, h35⟩
        refine hK.out _ _ ?_ (fun hHeld => ?_)
        · exact k5
        clear hK K
        try simp only [Act.put, List.setIfInBounds_toArray, List.set_cons_zero, List.set_cons_succ]
        refine take_w (i := 8) (d := 20) (v := ?_) rfl rfl (by kernel_rfl) (by kernel_rfl) (by kernel_rfl) (fun _ _ _ h => h) (Or.inl ⟨by rfl, ?_⟩) (by assumption) ?_
        rotate_left
        · (intro w hSw; (try dsimp only at hSw); go_simp; try with_reducible rfl)
        try simp only [Act.put, List.setIfInBounds_toArray, List.set_cons_zero, List.set_cons_succ]
        refine take_w (i := 9) (d := 21) (v := ?_) rfl rfl (by kernel_rfl) (by kernel_rfl) (by kernel_rfl) (fun _ _ _ h => h) (Or.inl ⟨by rfl, ?_⟩) (by assumption) ?_
        rotate_left
        · (intro w hSw; (try dsimp only at hSw); go_simp; try with_reducible rfl)
        try simp only [Act.put, List.setIfInBounds_toArray, List.set_cons_zero, List.set_cons_succ]
        refine take_w (i := 10) (d := 22) (v := undef) rfl rfl (by kernel_rfl) (by kernel_rfl) (by kernel_rfl) (fun _ _ _ h => h) (Or.inr ⟨by kernel_rfl, rfl⟩) (by assumption) ?_
        try simp only [Act.put, List.setIfInBounds_toArray, List.set_cons_zero, List.set_cons_succ]
        refine take_w (i := 11) (d := 23) (v := undef) rfl rfl (by kernel_rfl) (by kernel_rfl) (by kernel_rfl) (fun _ _ _ h => h) (Or.inr ⟨by kernel_rfl, rfl⟩) (by assumption) ?_
        try simp only [Act.put, List.setIfInBounds_toArray, List.set_cons_zero, List.set_cons_succ]
        refine take_w (i := 12) (d := 24) (v := undef) rfl rfl (by kernel_rfl) (by kernel_rfl) (by kernel_rfl) (fun _ _ _ h => h) (Or.inr ⟨by kernel_rfl, rfl⟩) (by assumption) ?_
        try simp only [Act.put, List.setIfInBounds_toArray, List.set_cons_zero, List.set_cons_succ]
        refine take_w (i := 13) (d := 25) (v := undef) rfl rfl (by kernel_rfl) (by kernel_rfl) (by kernel_rfl) (fun _ _ _ h => h) (Or.inr ⟨by kernel_rfl, rfl⟩) (by assumption) ?_
        try simp only [Act.put, List.setIfInBounds_toArray, List.set_cons_zero, List.set_cons_succ]
        refine take_w (i := 14) (d := 26) (v := undef) rfl rfl (by kernel_rfl) (by kernel_rfl) (by kernel_rfl) (fun _ _ _ h => h) (Or.inr ⟨by kernel_rfl, rfl⟩) (by assumption) ?_
        try simp only [Act.put, List.setIfInBounds_toArray, List.set_cons_zero, List.set_cons_succ]
        refine take_w (i := 15) (d := 27) (v := undef) rfl rfl (by kernel_rfl) (by kernel_rfl) (by kernel_rfl) (fun _ _ _ h => h) (Or.inr ⟨by kernel_rfl, rfl⟩) (by assumption) ?_
        try simp only [Act.put, List.setIfInBounds_toArray, List.set_cons_zero, List.set_cons_succ]
        refine take_w (i := 16) (d := 28) (v := undef) rfl rfl (by kernel_rfl) (by kernel_rfl) (by kernel_rfl) (fun _ _ _ h => h) (Or.inr ⟨by kernel_rfl, rfl⟩) (by assumption) ?_
        try simp only [Act.put, List.setIfInBounds_toArray, List.set_cons_zero, List.set_cons_succ]
        refine take_w (i := 17) (d := 29) (v := undef) rfl rfl (by kernel_rfl) (by kernel_rfl) (by kernel_rfl) (fun _ _ _ h => h) (Or.inr ⟨by kernel_rfl, rfl⟩) (by assumption) ?_
        try simp only [Act.put, List.setIfInBounds_toArray, List.set_cons_zero, List.set_cons_succ]
        refine take_w (i := 18) (d := 30) (v := undef) rfl rfl (by kernel_rfl) (by kernel_rfl) (by kernel_rfl) (fun _ _ _ h => h) (Or.inr ⟨by kernel_rfl, rfl⟩) (by assumption) ?_
        try simp only [Act.put, List.setIfInBounds_toArray, List.set_cons_zero, List.set_cons_succ]
        refine take_w (i := 19) (d := 31) (v := ?_) rfl rfl (by kernel_rfl) (by kernel_rfl) (by kernel_rfl) (fun _ _ _ h => h) (Or.inl ⟨by rfl, ?_⟩) (by assumption) ?_
        rotate_left
        · (intro w hSw; (try dsimp only at hSw); go_simp; try with_reducible rfl)
        try simp only [Act.put, List.setIfInBounds_toArray, List.set_cons_zero, List.set_cons_succ]
        refine wpAnyH_done (by kernel_rfl) ?_ _
        go_wp2
        go_ret
        exact ⟨false, rfl, ⟨fun h => (by cases h), fun h => absurd h hno.out⟩, SO.out _ h35.out⟩
      · rw [hS] at E35
        cases hD : LD c l x
        · have hno : Hid (¬ ∀ x ∈ l, LS c l x = true ∧ LD c l x = true) := fun h => by
            have := (h x hxl).2
            rw [hD] at this
            cases this
          rw [hD] at E36
          clear F HL hS hD hxl hx
          go_wp2_with fail
          go_region_held3 (fun B => B.cell? ⟨N, 0, none⟩ = some (.slice a1 4 k1) ∧ B.cell? ⟨N, 1, none⟩ = some (.int .i64 (nn : Int)) ∧ B.cell? ⟨N, 2, none⟩ = some (.int .u64 (sd : Int)) ∧ B.cell? ⟨N, 3, none⟩ = some (.slice a2 em k2) ∧ B.cell? ⟨N, 4, none⟩ = some (.int .u64 (sd : Int)) ∧ B.cell? ⟨b, o + k, none⟩ = some (.int .u64 (x : Int))) (first | exact K0.out | assumption) (first
            | (go_at_call 36; refine (E36.out _ h35).mono ?_; rintro e w6 ⟨rfl, k6, h36⟩)
            | (go_at_call 35; refine E35.out.mono ?_; rintro e w5 ⟨rfl, k5, h35⟩))
          go_wp2
          go_ret
          exact ⟨false, rfl, ⟨fun h => (by cases h), fun h => absurd h hno.out⟩, SO.out _ h36.out⟩
        · rw [hD] at E36
          have HN : Hid (∀ q y, q < k + 1 → l[q]? = some y → LS c l y = true ∧ LD c l y = true) := fun q y hq hy => by
            by_cases e : q = k
            · subst e
              obtain rfl : x = y := Option.some.inj (hx.out.symm.trans hy)
              exact ⟨hS, hD⟩
            · exact F.out q y (by omega) hy
          clear F HL hS hD hxl hx
          go_wp2_with fail
          go_region_held3 (fun B => B.cell? ⟨N, 0, none⟩ = some (.slice a1 4 k1) ∧ B.cell? ⟨N, 1, none⟩ = some (.int .i64 (nn : Int)) ∧ B.cell? ⟨N, 2, none⟩ = some (.int .u64 (sd : Int)) ∧ B.cell? ⟨N, 3, none⟩ = some (.slice a2 em k2) ∧ B.cell? ⟨N, 4, none⟩ = some (.int .u64 (sd : Int)) ∧ B.cell? ⟨b, o + k, none⟩ = some (.int .u64 (x : Int))) (first | exact K0.out | assumption) (first
            | (go_at_call 36; refine (E36.out _ h35).mono ?_; rintro e w6 ⟨rfl, k6, h36⟩)
            | (go_at_call 35; refine E35.out.mono ?_; rintro e w5 ⟨rfl, k5, h35⟩))
          go_wp2
          go_roundw
          case rel => exact ⟨k + 1, by omega, by simp, HN.out, h36.out⟩
          case measure => simp [intOf]; omega
    · obtain rfl : k = len := by omega
      have hyes : Hid (∀ x ∈ l, LS c l x = true ∧ LD c l x = true) := fun y hy => by
        obtain ⟨q, hq, e⟩ := List.getElem_of_mem hy
        exact hK.out.1 q y (by rw [← HL.out]; exact hq) (by rw [← e]; simp [hq])
      have HO := Lib.hid (SO.out _ hK.out.2)
      clear hK C P35 P36 SC SO
      go_wp2
      go_ret
      exact ⟨true, rfl, ⟨fun _ => hyes.out, fun _ => rfl⟩, HO.out⟩
end Go.Proofs.YtnhpcjiieagjnaaDoor.ap
namespace Go.Proofs.YtnhpcjiieagjnaaDoor.ap
open Go.RowKit
theorem ls_iff {c : Cs} (hn : 0 < c.n) (l : List Nat) (x : Nat) : LS c l x = true ↔ ∃ i, i < 4 ∧ aloneP (pfS c) l x i := by
  have hlt : ∀ y i, sk.plN c.seed c.n y i < c.n := fun y i => sk.plN_lt c.seed c.n y i hn
  have key : ∀ y i r, r * c.n + sk.plN c.seed c.n y r = i * c.n + sk.plN c.seed c.n x i ↔ r = i ∧ sk.plN c.seed c.n y r = sk.plN c.seed c.n x i := fun y i r => by
    have h1 := hlt y r
    have h2 := hlt x i
    constructor
    · intro h
      have e1 : (r * c.n + sk.plN c.seed c.n y r) / c.n = r := by rw [Nat.mul_comm, Nat.mul_add_div hn, Nat.div_eq_of_lt h1, Nat.add_zero]
      have e2 : (i * c.n + sk.plN c.seed c.n x i) / c.n = i := by rw [Nat.mul_comm, Nat.mul_add_div hn, Nat.div_eq_of_lt h2, Nat.add_zero]
      have e3 : r = i := by rw [← e1, h, e2]
      subst e3
      exact ⟨rfl, by omega⟩
    · rintro ⟨rfl, h⟩
      rw [h]
  unfold LS sk.lonely
  rw [List.any_eq_true]
  constructor
  · rintro ⟨i, hi, h⟩
    refine ⟨i, List.mem_range.1 hi, fun y hy hne r _ e => ?_⟩
    obtain ⟨rfl, e2⟩ := (key y i r).1 e
    have h3 := List.all_eq_true.1 h y hy
    simp [hne, e2] at h3
  · rintro ⟨i, hi, h⟩
    refine ⟨i, List.mem_range.2 hi, List.all_eq_true.2 fun y hy => ?_⟩
    by_cases hne : y = x
    · simp [hne]
    · have h3 : sk.plN c.seed c.n y i ≠ sk.plN c.seed c.n x i := fun e => h y hy hne i hi ((key y i i).2 ⟨rfl, e⟩)
      simp [h3]
theorem ld_iff (c : Cs) (l : List Nat) (x : Nat) : LD c l x = true ↔ ∃ i, i < 4 ∧ aloneP (pfD c) l x i := by
  unfold LD dr.lonely
  rw [List.any_eq_true]
  constructor
  · rintro ⟨i, hi, h⟩
    refine ⟨i, List.mem_range.1 hi, fun y hy hne r hr e => ?_⟩
    have h3 := List.all_eq_true.1 h y hy
    rw [Bool.or_eq_true] at h3
    rcases h3 with h3 | h3
    · exact hne (by simpa using h3)
    · have h4 := List.all_eq_true.1 h3 r (List.mem_range.2 hr)
      unfold pfD at e
      simp [e] at h4
  · rintro ⟨i, hi, h⟩
    refine ⟨i, List.mem_range.2 hi, List.all_eq_true.2 fun y hy => ?_⟩
    by_cases hne : y = x
    · simp [hne]
    · rw [Bool.or_eq_true]
      refine .inr (List.all_eq_true.2 fun r hr => ?_)
      have := h y hy hne r (List.mem_range.1 hr)
      unfold pfD at this
      simpa using this
theorem all_iff {c : Cs} (hn : 0 < c.n) (l : List Nat) : (∀ x ∈ l, LS c l x = true ∧ LD c l x = true) ↔ AllOwn c l := by
  constructor
  · intro h
    exact ⟨fun x hx => (ls_iff hn l x).1 (h x hx).1, fun x hx => (ld_iff c l x).1 (h x hx).2⟩
  · intro h x hx
    exact ⟨(ls_iff hn l x).2 (h.1 x hx), (ld_iff c l x).2 (h.2 x hx)⟩
theorem lone_of {c : Cs} {l : List Nat} (h : AllOwn c l) : Lone c l := fun x hx => by
  obtain ⟨i, hi, h1⟩ := h.1 x hx
  obtain ⟨j, hj, h2⟩ := h.2 x hx
  refine ⟨⟨i, hi, fun y hy hne e => h1 y hy hne i hi ?_⟩, j, hj, fun y hy hne r hr => h2 y hy hne r hr⟩
  unfold pfS
  rw [e]
theorem elem23 : Tryd.prog.underlying 23 = some (.slice (Tryd.prog.elem 23)) := by kernel_rfl
theorem size23 (w : World) : (sizeOf (Tryd.prog.elem 23)).run Tryd.prog w = .ok 1 w := by kernel_rfl
/-- the first keys of a slice. -/
theorem cut_k (a : Option Addr) (n cap nn : Nat) (hn : nn ≤ n) (hc : n ≤ cap) : ∃ a3, (∀ W', (Instr.slice 23 (.slice a n cap) none (some (.int .i64 (nn : Int))) none).run Tryd.prog W' = .ok (.slice a3 nn cap) W') ∧ ∀ b o, a = some ⟨b, o, none⟩ → a3 = some ⟨b, o, none⟩ := by
  refine ⟨if cap = 0 then a else a.map (·.add (0 * 1)), fun W' => by rw [run_slice_h W' 23 a n cap elem23 .i64 nn (by omega) (by omega), size23]; simp [sliced], fun b o h => ?_⟩
  subst h
  by_cases h : cap = 0 <;> simp [h, Addr.add]
end Go.Proofs.YtnhpcjiieagjnaaDoor.ap
namespace Go.Proofs.YtnhpcjiieagjnaaDoor
open Go.RowKit
open rk (Ez addE es0 estE runE run_next run_cnt)
open ap (AllOwn Aparts RAp LS LD)
/-- both, behind the first i keys, where keys are apart. -/
def Bs (w : World) (a : Ad) (c : Cs) (X : Nat) (l : List Nat) (i : Nat) (V : World) : Prop := Both w a c X i (pushZ c (l.take i) (zs0 c)) (runE c.lim (l.take i)) V ∧ Ok c i (pushZ c (l.take i) (zs0 c)) ∧ Same c l (pushZ c (l.take i) (zs0 c)) (runE c.lim (l.take i))
def Bs1 (w : World) (a : Ad) (c : Cs) (X : Nat) (l : List Nat) (i x : Nat) (V : World) : Prop := Both w a c X i (addZ c x (pushZ c (l.take i) (zs0 c))) (runE c.lim (l.take i)) V ∧ Ok c i (pushZ c (l.take i) (zs0 c)) ∧ Same c l (pushZ c (l.take i) (zs0 c)) (runE c.lim (l.take i)) ∧ Fine c (pushZ c (l.take i) (zs0 c))
section
variable {w V : World} {a : Ad} {c : Cs} {X i : Nat} {l : List Nat}
theorem Bs.add8 (h : Bs w a c X l i V) (x : Nat) (hx : x < 18446744073709551616) (hi : i ≤ 1000000) : Calls Tryd.prog 8 #[.pointer (some ⟨a.T, 0, none⟩), .int .u64 (x : Int)] V fun r B => r = .returned (.tuple #[]) ∧ Hid (Bs1 w a c X l i x B) :=
  (h.1.add8 x hx h.2.1.1 (Nat.le_trans h.2.1.2 hi)).mono fun _ _ ⟨he, ho⟩ => ⟨he, ho.out, h.2.1, h.2.2, h.1.ti.fine⟩
theorem Bs1.add9 {x : Nat} (h : Bs1 w a c X l i x V) (hL : Lone c l) (hx : l[i]? = some x) (hi : i ≤ 1000000) : Calls Tryd.prog 9 #[.pointer (some ⟨X, 0, none⟩), .int .u64 (x : Int)] V fun r B => r = .returned (.tuple #[]) ∧ Hid (Bs w a c X l (i + 1) B) := by
  have hc : (runE c.lim (l.take i)).cnt < c.lim := by rw [← h.2.2.1.dom.cnt]; exact h.2.1.1
  refine (h.1.add9 x hc hi).mono fun _ B ⟨he, ho⟩ => ⟨he, ?_⟩
  show Bs w a c X l (i + 1) B
  unfold Bs
  rw [push_next c l (zs0 c) i x hx, run_next c.lim l i x hx]
  exact ⟨ho.out, h.2.1.add x, h.2.2.1.add h.2.2.2 hL x (List.mem_of_getElem? hx)⟩
end
set_option maxRecDepth 100000 in
set_option maxHeartbeats 20000000 in
theorem same_some (k : Int) (seed : Nat) (hseed : seed < 18446744073709551616) (p : Option Addr) (cap : Nat) (l : List Nat) (w : World) (hs : mx.Since w w) (hl : l.length ≤ 40) (hcap : l.length ≤ cap) (hr : rk.Ks (fun _ => True) w p l) :
    Calls Tryd.prog 4 #[.int .i64 k, .int .u64 (seed : Int), .slice p l.length cap] w fun e B => e = .returned (.bool true) ∧ Below w.heap.size w B := by
  obtain ⟨n, hn⟩ : ∃ n, min k 500 = n := ⟨_, rfl⟩
  have N6 := Lib.hid (both_new n seed hseed w hs)
  have N16 : Hid (∀ V : World, Calls Tryd.prog 16 #[.int .i64 n, .int .u64 (seed : Int)] V fun e B => ∃ a1 k1 a2 k2, e = .returned (tv (csN n seed) 0 0 (.slice a1 4 k1) (.slice a2 (8 * (csN n seed).m) k2)) ∧ Hid (Below V.heap.size V B)) := fun V =>
    (refnew13 n seed hseed V (fun _ => True) (fun _ _ => trivial)).mono fun e B ⟨v, u, he, hR, hb⟩ => by
      obtain ⟨a1, k1, rfl⟩ := hR.vs
      obtain ⟨a2, k2, rfl⟩ := hR.us
      exact ⟨a1, k1, a2, k2, he, hb⟩
  obtain ⟨c, hc⟩ : ∃ c, csN n seed = c := ⟨_, rfl⟩
  have OK : Ok c 0 (zs0 c) := by rw [← hc]; exact Ok.start n seed
  have hsd : c.seed = seed := by rw [← hc]; rfl
  rw [hc] at N6 N16
  have S0 : Hid (∀ a X V, Both w a c X 0 (zs0 c) es0 V → Bs w a c X l 0 V) := fun a X V h => ⟨h, OK, Same.start c l⟩
  have A14 : Hid (∀ a X V, Both w a c X 0 (zs0 c) es0 V → Calls Tryd.prog 14 #[.pointer (some ⟨a.T, 0, none⟩), .slice p l.length cap] V (Aparts c l V)) := fun a X V h =>
    ap.apart14 h.ti p cap l (ap.ks_below hr h.old) (by omega)
  have A15 : Hid (∀ a X V V0 a1 k1 a2 k2, Both w a c X 0 (zs0 c) es0 V0 → Below w.heap.size w V → Calls Tryd.prog 15 #[tv c 0 0 (.slice a1 4 k1) (.slice a2 (8 * c.m) k2), .slice p l.length cap] V (RAp c l V)) := fun a X V V0 a1 k1 a2 k2 h hV => by
    have h1 := h.ti.d.dr.pos
    have h2 := h.ti.d.dr.lid
    rw [h.ti.ln] at h1 h2
    exact ap.refapart15 c ⟨h.ti.s.sk.pos, h.ti.s.sk.lid⟩ ⟨h1, h2⟩ (by rw [hsd]; exact hseed) a1 k1 a2 k2 p cap l V (ap.ks_below hr hV) hcap (by omega)
  have AI : Hid (∀ a X V, Both w a c X 0 (zs0 c) es0 V → ((∀ x ∈ l, LS c l x = true ∧ LD c l x = true) ↔ AllOwn c l)) := fun a X V h => ap.all_iff h.ti.s.sk.pos l
  have C : Hid (∀ V, Below w.heap.size w V → ∀ j, j < l.length → ∃ (b o x : Nat), p = some ⟨b, o, none⟩ ∧ V.cell? ⟨b, o + j, none⟩ = some (.int .u64 (x : Int)) ∧ x < 18446744073709551616 ∧ Hid (l[j]? = some x)) := fun V hV j hj => key_now hr hV j hj
  obtain ⟨a3, hcut, ha3⟩ := ap.cut_k p l.length cap (l.length / 2) (by omega) hcap
  have HA3 := Lib.hid ha3
  clear hr hs hseed hc OK hsd hcap ha3
  obtain ⟨len, hlen⟩ : ∃ len, l.length = len := ⟨_, rfl⟩
  rw [hlen] at C hl A14 A15 hcut ⊢
  obtain ⟨h, hh⟩ : ∃ h, len / 2 = h := ⟨_, rfl⟩
  rw [hh] at hcut
  have hdiv : (len : Int).tdiv 2 = (h : Int) := by rw [Int.tdiv_eq_ediv_of_nonneg (by omega)]; omega
  have hwh : IntKind.i64.wrap (h : Int) = (h : Int) := by simp only [IntKind.wrap_i64]; omega
  have hhl : h ≤ len := by omega
  have HHL := Lib.hid hhl
  clear hlen hh hhl
  go_enter Tryd.func4, Tryd.ntmps4
  go_wp2_with fail
  refine N6.out.mono ?_
  rintro e w1 ⟨a, rfl, N7⟩
  go_wp2_with fail
  refine N7.out.mono ?_
  rintro e w2 ⟨X, rfl, h2⟩
  have T14 := Lib.hid (A14.out _ _ _ h2.out)
  have HB := h2
  clear N6 N7 A14
  go_wp2_with fail
  refine T14.out.mono ?_
  rintro e w3 ⟨r1, rfl, hr1, hb3⟩
  have HB3 : Hid (Both w a c X 0 (zs0 c) es0 w3) := HB.out.below hb3
  have HR1 := Lib.hid hr1
  clear T14 hr1 hb3
  have T16 := Lib.hid (N16.out w3)
  clear N16
  go_wp2_with fail
  refine T16.out.mono ?_
  rintro e w4 ⟨a1, k1, a2, k2, rfl, hb4⟩
  have HB4 : Hid (Both w a c X 0 (zs0 c) es0 w4) := HB3.out.below hb4.out
  have T15 := Lib.hid (A15.out a X w4 w4 a1 k1 a2 k2 HB4.out HB4.out.old)
  clear T16 A15 hb4
  go_wp2_with fail
  refine T15.out.mono ?_
  rintro e w5 ⟨r2, rfl, hr2, hb5⟩
  have HB5 : Hid (Both w a c X 0 (zs0 c) es0 w5) := HB4.out.below hb5
  have hrr : r1 = r2 := by
    have h1 := HR1.out
    rw [AI.out _ _ _ HB5.out] at hr2
    cases r1 <;> cases r2
    · rfl
    · exact absurd (h1.2 (hr2.1 rfl)) (by decide)
    · exact absurd (hr2.2 (h1.1 rfl)) (by decide)
    · rfl
  subst hrr
  clear T15 hr2 hb5 AI HB HB3 HB4 h2
  have hne : (r1 != r1) = false := by simp
  cases r1
  · have HO := Lib.hid HB5.out.old
    have AW := Lib.hid (rk.awake_any w5)
    clear HB5 HR1 S0 C
    go_wp2_with fail
    go_loopw [12] (fun i wr => i = .int .i64 0 ∧ wr = w5) (fun _ _ => 0)
    case atStart => exact ⟨rfl, rfl⟩
    case round =>
      obtain ⟨rfl, rfl⟩ := hrel
      by_cases h0 : 0 < h
      · have h0' : (0 : Int) < (h : Int) := by omega
        go_wp2_with (go_at_call 5; refine AW.out.mono ?_; rintro e w6 ⟨rfl, hb6⟩)
        go_ret
        exact ⟨rfl, HO.out.trans (hb6.out.mono HO.out.size)⟩
      · obtain rfl : h = 0 := by omega
        go_wp2_with (go_at_call 5; refine AW.out.mono ?_; rintro e w6 ⟨rfl, hb6⟩)
        go_ret
        exact ⟨rfl, HO.out.trans (hb6.out.mono HO.out.size)⟩
  · have HL : Hid (Lone c l) := ap.lone_of (HR1.out.1 rfl)
    have H0 : Hid (Bs w a c X l 0 w5) := S0.out _ _ _ HB5.out
    clear HB5 HR1 S0
    go_wp2_with fail
    go_loopw [12] (fun i wr => ∃ j : Nat, j ≤ h ∧ i = .int .i64 j ∧ Hid (Bs w a c X l j wr)) (fun i _ => h - (intOf i).toNat)
    case atStart => exact ⟨0, by omega, rfl, H0⟩
    case round =>
      obtain ⟨i, hi, rfl, hI⟩ := hrel
      clear H0 hcut
      by_cases hlt : i < h
      · have hil : i < len := by have := HHL.out; omega
        obtain ⟨b, o, x, rfl, d0, hx64, hx⟩ := C.out wr hI.out.1.old i hil
        obtain rfl := HA3.out b o rfl
        have A8 := Lib.hid (hI.out.add8 x hx64 (by omega))
        have h1 : (0 : Int) ≤ (i : Int) := by omega
        have h2 : (i : Int) < (h : Int) := by omega
        clear hI
        go_wp2_with fail
        refine A8.out.mono ?_
        rintro e w6 ⟨rfl, H6⟩
        clear A8 d0
        obtain ⟨b', o', x', hp, d0, _, hx'⟩ := C.out w6 H6.out.1.old i hil
        simp only [Option.some.injEq, Addr.mk.injEq, and_true] at hp
        obtain ⟨rfl, rfl⟩ := hp
        obtain rfl : x = x' := Option.some.inj (hx.out.symm.trans hx'.out)
        have A9 := Lib.hid (H6.out.add9 HL.out hx.out (by omega))
        clear H6 hx hx'
        go_wp2_with fail
        refine A9.out.mono ?_
        rintro e w7 ⟨rfl, H7⟩
        clear A9 d0
        go_wp2_with fail
        go_loopw [13] (fun q wr => ∃ k : Nat, k ≤ len ∧ q = .int .i64 k ∧ Hid (Bs w a c X l (i + 1) wr)) (fun q _ => len - (intOf q).toNat)
        case atStart => exact ⟨0, by omega, rfl, H7⟩
        case round =>
          obtain ⟨j, hj, rfl, hJ⟩ := hrel
          clear H7
          by_cases hjl : j < len
          · obtain ⟨b', o', y, hp, d0, hy64, hy⟩ := C.out wr hJ.out.1.old j hjl
            simp only [Option.some.injEq, Addr.mk.injEq, and_true] at hp
            obtain ⟨rfl, rfl⟩ := hp
            have j1 : (0 : Int) ≤ (j : Int) := by omega
            have j2 : (j : Int) < (len : Int) := by omega
            obtain ⟨z, hz⟩ : ∃ z, pushZ c (l.take (i + 1)) (zs0 c) = z := ⟨_, rfl⟩
            obtain ⟨e, he⟩ : ∃ e, runE c.lim (l.take (i + 1)) = e := ⟨_, rfl⟩
            obtain ⟨EE, hEE⟩ : ∃ EE, estE y e = EE := ⟨_, rfl⟩
            have hEZ : estZ c y z = EE := by
              have := hJ.out.2.2.est HL.out y (List.mem_of_getElem? hy.out)
              rw [hz, he, hEE] at this
              exact this
            have hne2 : ((EE : Int) != (EE : Int)) = false := by simp
            have CY : Hid (∀ V, Both w a c X (i + 1) z e V → V.cell? ⟨b, o + j, none⟩ = some (.int .u64 (y : Int))) := fun V hV => by
              obtain ⟨b', o', y', hp, d0, _, hy'⟩ := C.out V hV.old j hjl
              simp only [Option.some.injEq, Addr.mk.injEq, and_true] at hp
              obtain ⟨rfl, rfl⟩ := hp
              obtain rfl : y = y' := Option.some.inj (hy.out.symm.trans hy'.out)
              exact d0
            have J1 : Hid (Both w a c X (i + 1) z e wr.drew) := by
              have := hJ.out.1.drewN 1
              rw [hz, he] at this
              exact this
            have E10 : Hid (Calls Tryd.prog 10 #[.pointer (some ⟨a.T, 0, none⟩), .int .u64 (y : Int)] wr.drew fun r B => r = .returned (.int .i64 (EE : Int)) ∧ B.cell? ⟨b, o + j, none⟩ = some (.int .u64 (y : Int)) ∧ Hid (Both w a c X (i + 1) z e B)) := by
              have := J1.out.est10 y hy64
              rw [hEZ] at this
              exact this.mono fun r B ⟨h1, h2⟩ => ⟨h1, CY.out B h2.out, h2⟩
            have E11 : Hid (∀ V, Hid (Both w a c X (i + 1) z e V) → Calls Tryd.prog 11 #[.pointer (some ⟨X, 0, none⟩), .int .u64 (y : Int)] V fun r B => r = .returned (.int .i64 (EE : Int)) ∧ B.cell? ⟨b, o + j, none⟩ = some (.int .u64 (y : Int)) ∧ Hid (Both w a c X (i + 1) z e B)) := fun V hV => by
              have := hV.out.est11 y
              rw [hEE] at this
              exact this.mono fun r B ⟨h1, h2⟩ => ⟨h1, CY.out B h2.out, h2⟩
            have K0 := Lib.hid (CY.out _ J1.out)
            have FIN : Hid (∀ V, Hid (Both w a c X (i + 1) z e V) → Hid (Bs w a c X l (i + 1) V)) := fun V hV => by
              show Bs w a c X l (i + 1) V
              have h3 := hJ.out.2
              unfold Bs
              rw [hz, he] at h3 ⊢
              exact ⟨hV.out, h3⟩
            clear hJ hz he hEZ hEE hy CY J1 C d0 HL HA3
            go_wp2_with fail
            go_region_held3 (fun V => V.cell? ⟨b, o + j, none⟩ = some (.int .u64 (y : Int))) (first | exact K0.out | assumption) (first
              | (go_at_call 11; refine (E11.out _ h10).mono ?_; rintro r w9 ⟨rfl, k6, h11⟩)
              | (go_at_call 10; refine E10.out.mono ?_; rintro r w8 ⟨rfl, k5, h10⟩))
            go_wp2
            go_roundw
            case rel => exact ⟨j + 1, by omega, by simp, FIN.out _ h11⟩
            case measure => simp [intOf]; omega
          · obtain rfl : j = len := by omega
            go_wp2
            go_roundw
            case rel => exact ⟨i + 1, by omega, by simp, hJ⟩
            case measure => simp [intOf]; omega
      · obtain rfl : i = h := by omega
        have HO := Lib.hid hI.out.1.old
        have AW := Lib.hid (rk.awake_any wr)
        clear hI C HL HA3
        go_wp2_with (go_at_call 5; refine AW.out.mono ?_; rintro e w6 ⟨rfl, hb6⟩)
        go_ret
        exact ⟨rfl, HO.out.trans (hb6.out.mono HO.out.size)⟩
theorem same_walk (k : Int) (seed : Nat) (hseed : seed < 18446744073709551616) (p : Option Addr) (cap : Nat) (l : List Nat) (w : World) (hs : mx.Since w w) (hcap : l.length ≤ cap) (hr : rk.Ks (fun _ => True) w p l) :
    Calls Tryd.prog 4 #[.int .i64 k, .int .u64 (seed : Int), .slice p l.length cap] w fun e B => e = .returned (.bool true) ∧ Below w.heap.size w B := by
  by_cases hl : l.length ≤ 40
  · exact same_some k seed hseed p cap l w hs hl hcap hr
  · have h : (40 : Int) < (l.length : Int) := by omega
    have AW := Lib.hid (rk.awake_any w)
    clear hr hl hs hcap
    generalize l.length = len at *
    go_enter Tryd.func4, Tryd.ntmps4
    go_wp2_with fail
    refine AW.out.mono ?_
    rintro e w1 ⟨rfl, hb⟩
    go_wp2
    go_ret
    exact ⟨rfl, hb.out⟩
end Go.Proofs.YtnhpcjiieagjnaaDoor
