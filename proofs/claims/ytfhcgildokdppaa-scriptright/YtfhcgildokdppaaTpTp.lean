/-
  A tape as it lies (the program's, or the document's); slices.Clone of bytes, New, Left, At and Byte of package tape, the document's Byte, by their contracts, for every tape.
-/
import Derived.Test.YtfhcgildokdppaaTpMa
import Derived.Test.YtfhcgildokdppaaProg
import Derived.Below
import Derived.Deep.Draws
import Derived.Deep.OwnRows
import Derived.Lib.SliceRun
import Derived.Lib.Strings
import Derived.Lib.Slices
import Derived.Lib.Small
import Derived.Lib.Walk
import Derived.RangeFuncNested
import Derived.Laws.OwnMore
import Derived.Laws.AppendOwnNone
import Derived.OwnWalk
import Derived.Deep.RegionHeld3
import Derived.Deep.QuietTactic
import Derived.BigQuiet
namespace Go.Proofs.Ytfhcgildokdppaa.tp
open Go.RowKit
/-- of what lay in A the blocks of K lie in B as they lay; nothing has gone. -/
structure Keep (K : Nat → Prop) (A B : World) : Prop where
  os : B.os = A.os
  tape : B.tape = A.tape
  output : B.output = A.output
  size : A.heap.size ≤ B.heap.size
  block : ∀ k, k < A.heap.size → K k → B.heap[k]? = A.heap[k]?
namespace Keep
variable {K K' : Nat → Prop} {A B C : World}
theorem refl (K : Nat → Prop) (A : World) : Keep K A A := ⟨rfl, rfl, rfl, Nat.le_refl _, fun _ _ _ => rfl⟩
theorem trans (h : Keep K A B) (k : Keep K B C) : Keep K A C :=
  ⟨k.os.trans h.os, k.tape.trans h.tape, k.output.trans h.output, Nat.le_trans h.size k.size, fun i hi hK => (k.block i (Nat.lt_of_lt_of_le hi h.size) hK).trans (h.block i hi hK)⟩
theorem mono (h : Keep K A B) (hk : ∀ i, i < A.heap.size → K' i → K i) : Keep K' A B := ⟨h.os, h.tape, h.output, h.size, fun i hi hK => h.block i hi (hk i hi hK)⟩
theorem drewN (K : Nat → Prop) (A : World) (n : Nat) : Keep K A (A.drewN n) := ⟨rfl, rfl, rfl, Nat.le_refl _, fun _ _ _ => rfl⟩
theorem drew (K : Nat → Prop) (A : World) : Keep K A A.drew := ⟨rfl, rfl, rfl, Nat.le_refl _, fun _ _ _ => rfl⟩
theorem alloc (K : Nat → Prop) (A : World) (o : Obj) : Keep K A (A.alloc o) := ⟨rfl, rfl, rfl, by simp, fun k hk _ => Below.heap_alloc _ _ _ hk⟩
theorem setCell (A : World) (p : Addr) (v : Value) (h : ¬ K p.block) : Keep K A (A.setCell p v) := ⟨rfl, rfl, rfl, by simp [World.setCell], fun k _ hK => Below.heap_setCell _ _ _ _ (fun e => h (e ▸ hK))⟩
theorem grown {row : Option Nat} (hg : A.grownBy B row) (h : ∀ k, row = some k → ¬ K k) : Keep K A B := ⟨hg.os, hg.tape, hg.output, hg.size, fun k hk hK => hg.block k hk (fun e => h k e.symm hK)⟩
theorem of_below (h : Below A.heap.size A B) : Keep K A B := ⟨h.os, h.tape, h.output, h.size, fun k hk _ => h.block k hk⟩
theorem below {N : Nat} (h : Keep K A B) (hK : ∀ k, k < N → K k) (hN : N ≤ A.heap.size) : Below N A B := ⟨h.os, h.tape, h.output, h.size, fun k hk => h.block k (Nat.lt_of_lt_of_le hk hN) (hK k hk)⟩
theorem heap (h : Keep K A B) {k : Nat} {o : Obj} (hk : A.heap[k]? = some o) (hK : K k) : B.heap[k]? = some o := (h.block k (Array.getElem?_eq_some_iff.1 hk).1 hK).trans hk
theorem cell (h : Keep K A B) {p : Addr} (hp : p.block < A.heap.size) (hK : K p.block) : B.cell? p = A.cell? p := World.cell?_of_block (w := A) (h.block p.block hp hK)
theorem own (h : Keep K A B) {base : Nat} {e : TypeId} {size : Nat} {v : Value} {n : Nat} {xs : List Value} (ho : A.ownsRow base e size v n xs) (hK : ∀ k, v.ownBlock = some k → K k) : B.ownsRow base e size v n xs := by
  refine ⟨ho.1, ?_⟩
  rcases ho.2 with hn | ⟨g, cap, cur, rfl, hb, hgg, rest⟩
  · exact .inl hn
  · exact .inr ⟨g, cap, cur, rfl, hb, h.heap hgg (hK g rfl), rest⟩
end Keep
theorem heap_lt {w : World} {k : Nat} {o : Obj} (h : w.heap[k]? = some o) : k < w.heap.size := (Array.getElem?_eq_some_iff.1 h).1
theorem cell_of {w : World} {b : Nat} {arr : Array Value} {t : TypeId} (h : w.heap[b]? = some (.cells arr t (0, 0))) (i : Nat) : w.cell? ⟨b, i, none⟩ = arr[i]? := by simp [World.cell?, h]
theorem frozen_of {w : World} {b : Nat} {arr : Array Value} {t : TypeId} (h : w.heap[b]? = some (.cells arr t (0, 0))) (i : Nat) : w.frozen? ⟨b, i, none⟩ = false := by simp [World.frozen?, h]
theorem heap_set {w : World} {b : Nat} {arr : Array Value} {t : TypeId} (h : w.heap[b]? = some (.cells arr t (0, 0))) (i : Nat) (v : Value) : (w.setCell ⟨b, i, none⟩ v).heap[b]? = some (.cells (arr.setIfInBounds i v) t (0, 0)) := by
  obtain ⟨hlt, hk⟩ := Array.getElem?_eq_some_iff.1 h
  show (w.heap.modify b _)[b]? = _
  rw [Array.getElem?_eq_getElem (by rw [Array.size_modify]; exact hlt), Array.getElem_modify_self, hk]
  rfl
theorem heap_next {w : World} {k : Nat} (h : k = w.heap.size) (o : Obj) : (w.alloc o).heap[k]? = some o := by rw [h]; exact heap_alloc_new _ _
theorem below_drewN (w : World) (n : Nat) : Below w.heap.size w (w.drewN n) := ⟨rfl, rfl, rfl, Nat.le_refl _, fun _ _ => rfl⟩
theorem quiet_still {P : Program} {f : FuncId} {args : Array Value} {w : World} {n : Nat} {v : Value}
    (h : Calls P f args (w.drewN n) fun e w' => e = .returned v ∧ w' = w.drewN n) : Calls P f args (w.drewN n) fun e w'' => e = .returned v ∧ ∃ m, w'' = w.drewN m :=
  h.mono fun _ _ ⟨he, hm⟩ => ⟨he, n, hm⟩
abbrev e8 (b : Nat) : Value := .int .u8 (b : Int)
abbrev eI (n : Int) : Value := .int .i64 n
/-- the slice at p reads as xs; an empty one may lie anywhere. -/
def La {α : Type} (enc : α → Value) (w : World) (p : Option Addr) (xs : List α) : Prop := 0 < xs.length → ∃ b o, p = some ⟨b, o, none⟩ ∧ ∀ i (h : i < xs.length), w.cell? ⟨b, o + i, none⟩ = some (enc xs[i])
namespace La
variable {α : Type} {enc : α → Value} {w w' : World} {p : Option Addr} {xs : List α}
theorem nil (w : World) (p : Option Addr) : La enc w p [] := fun h => absurd h (by simp)
theorem keep {K : Nat → Prop} (h : La enc w p xs) (hk : Keep K w w') (hK : ∀ b o, p = some ⟨b, o, none⟩ → 0 < xs.length → K b) : La enc w' p xs := fun h0 => by
  obtain ⟨b, o, hp, hi⟩ := h h0
  exact ⟨b, o, hp, fun i h => (hk.cell (p := ⟨b, o + i, none⟩) (World.block_lt_of_cell? w ⟨b, o + i, none⟩ (hi i h)) (hK b o hp h0)).trans (hi i h)⟩
theorem below (h : La enc w p xs) (hb : Below w.heap.size w w') : La enc w' p xs := h.keep (K := fun _ => True) (.of_below hb) fun _ _ _ _ => trivial
theorem lt (h : La enc w p xs) {b o : Nat} (hp : p = some ⟨b, o, none⟩) (h0 : 0 < xs.length) : b < w.heap.size := by
  obtain ⟨b', o', e, hi⟩ := h h0
  obtain ⟨rfl, rfl⟩ : b = b' ∧ o = o' := by rw [hp] at e; simpa using e
  exact World.block_lt_of_cell? w ⟨b, o + 0, none⟩ (hi 0 h0)
end La
/-- an element of the slice, as it reads now. -/
theorem now {α : Type} {enc : α → Value} {w : World} {p : Option Addr} {l : List α} (hr : La enc w p l) (j : Nat) (hj : j < l.length) : ∃ (b o : Nat), p = some ⟨b, o, none⟩ ∧ Hid (∀ V, Below w.heap.size w V → V.cell? ⟨b, o + j, none⟩ = some (enc l[j])) := by
  obtain ⟨b, o, hp, hi⟩ := hr (by omega)
  exact ⟨b, o, hp, fun V hV => (hV.cell (p := ⟨b, o + j, none⟩) (World.block_lt_of_cell? w ⟨b, o + j, none⟩ (hi j hj))).trans (hi j hj)⟩
theorem own_la {α : Type} {enc : α → Value} {w : World} {base : Nat} {e : TypeId} {v : Value} {l : List α} (h : w.ownsRow base e 1 v l.length (l.map enc)) : ∃ q c, v = .slice q l.length c ∧ l.length ≤ c ∧ La enc w q l ∧ (q = none → l = [] ∧ c = 0) ∧ ∀ b o, q = some ⟨b, o, none⟩ → base ≤ b := by
  rcases h.2 with ⟨rfl, h0⟩ | ⟨g, cap, cur, rfl, hg, _, hc, _⟩
  · obtain rfl := List.eq_nil_of_length_eq_zero h0
    exact ⟨none, 0, rfl, by omega, La.nil _ _, fun _ => ⟨rfl, rfl⟩, fun _ _ h => by simp at h⟩
  · refine ⟨_, cap, rfl, hc, fun _ => ⟨g, 0, rfl, fun i hi => ?_⟩, (by simp), fun b o h => ?_⟩
    · have := h.cells (g := g) rfl i (enc l[i]) (by simp [hi])
      rwa [Addr.add_lit] at this
    · simp at h
      omega
theorem info_b : (Try.prog.info? 5).map (fun i => (i.zero, i.size, i.bytes)) = some (some (.int .u8 0), 1, 1) := by kernel_rfl
theorem info_parts {P : Program} {e : TypeId} {z : Value} {size bytes : Nat} (h : (P.info? e).map (fun i => (i.zero, i.size, i.bytes)) = some (some z, size, bytes)) : ∃ i, P.info? e = some i ∧ i.zero = some z ∧ i.size = size ∧ i.bytes = bytes := by
  obtain ⟨i, hi, hz⟩ := Option.map_eq_some_iff.1 h
  simp only [Prod.mk.injEq] at hz
  exact ⟨i, hi, hz.1, hz.2.1, hz.2.2⟩
theorem app_step {P : Program} (w : World) {ops : Array Oper} {rest : List Oper} {o : Oper} {a : Act} {Q : Exit → Act → World → Prop} (hgd : o.guard = none) (s x : Operand) (t : TypeId)
    (ho : o.op = .call { callee := .builtin .append, args := #[s, x], argTypes := #[t, t] }) (v u : Value) (hs : a.eval s = v) (hx : a.eval x = u) {R : Value → World → Prop}
    (hrun : ∃ v' w', (Builtin.append_ #[t, t] o.type #[v, u]).run P w = .ok v' w' ∧ R v' w') (h : ∀ v' w', R v' w' → wpList P ops Q rest (a.put o.dst v') w') : wpList P ops Q (o :: rest) a w := by
  refine wpList_plain hgd fun _ hK => ?_
  obtain ⟨v', w', hr, hR⟩ := hrun
  unfold Oper.wp execOp
  simp only [ho, resolve, invoke, builtin, Sem.run_bind, Sem.run_pure, Result.andThen_ok, List.map_toArray, List.map_cons, List.map_nil, hs, hx, hr]
  exact hK _ _ (h v' w' hR)
/-- bytes appended to a row of one's own. -/
theorem app_b {W : World} {base : Nat} {v0 : Value} {i : Nat} {ys zs : List Nat} {a : Option Addr} {cap : Nat} (hown : W.ownsRow base 5 1 v0 i (ys.map e8)) (hu : La e8 W a zs) (hn : a = none → zs = [] ∧ cap = 0) (hi : i + zs.length ≤ 100000000000000) (hb : base ≤ W.heap.size) (ty : TypeId) :
    ∃ v' w', (Builtin.append_ #[35, 35] ty #[v0, .slice a zs.length cap]).run Try.prog W = .ok v' w' ∧ w'.ownsRow base 5 1 v' (i + zs.length) ((ys ++ zs).map e8) ∧ W.grownBy w' v0.ownBlock := by
  obtain ⟨i0, hi0, hz0, hz1, hz2⟩ := info_parts info_b
  have hmax : maxLen = 9223372036854775807 := by decide
  cases a with
  | none =>
    obtain ⟨rfl, rfl⟩ := hn rfl
    exact ⟨v0, W, run_append_owned_none W base 35 ty 5 i0 1 Try.underlying35 hi0 v0 i _ hown, by simpa using hown, World.grownBy.refl _ _⟩
  | some x =>
    obtain ⟨v', w1, hr, hown', hgrow, _⟩ := run_append_own (P := Try.prog) W base 35 ty 5 i0 (.int .u8 0) 1 1 Try.underlying35 hi0 hz0 hz1 hz2 rfl (by decide) v0 i _ hown x zs.length cap (zs.map e8) (by simp) (fun j u hu' => by
      rw [List.getElem?_map, Option.map_eq_some_iff] at hu'
      obtain ⟨y, hy, rfl⟩ := hu'
      obtain ⟨hj, rfl⟩ := List.getElem?_eq_some_iff.1 hy
      obtain ⟨b, o, hx, hcell⟩ := hu (by omega)
      obtain rfl := Option.some.inj hx
      rw [show (⟨b, o, none⟩ : Addr).add j = ⟨b, o + j, none⟩ by simp [Addr.add]]
      exact hcell j hj) (fun u hu => by obtain ⟨x, _, rfl⟩ := List.mem_map.1 hu; rfl) (by omega) (by omega) hb
    exact ⟨v', w1, hr, by rw [List.map_append]; exact hown', hgrow⟩
theorem empty_own (w : World) (e : TypeId) {α : Type} (enc : α → Value) : (w.alloc (.cells #[] e)).ownsRow w.heap.size e 1 (.slice (some ⟨w.heap.size, 0, none⟩) 0 0) 0 (([] : List α).map enc) := World.ownsRow_lit w #[] 0 (Nat.le_refl _) (by decide) rfl
theorem own_slice {w : World} {base : Nat} {e : TypeId} {size : Nat} {v : Value} {n : Nat} {xs : List Value} (h : w.ownsRow base e size v n xs) : ∃ a cap, v = .slice a n cap := by
  rcases h.2 with ⟨rfl, rfl⟩ | ⟨g, cap, cur, rfl, _⟩
  · exact ⟨_, _, rfl⟩
  · exact ⟨_, _, rfl⟩
/-- what slices.Clone leaves behind: a row of one's own. -/
def Cl (w : World) (v : Value) (bs : List Nat) (B : World) : Prop := B.ownsRow w.heap.size 5 1 v bs.length (bs.map e8) ∧ Below w.heap.size w B
set_option maxHeartbeats 1000000 in
theorem clone18 (a : Option Addr) (bs : List Nat) (cap : Nat) (w : World) (hn : a = none → bs = [] ∧ cap = 0) (hl : bs.length ≤ 100000000000000) (hr : La e8 w a bs) :
    Calls Try.prog 56 #[.slice a bs.length cap] w fun e B => ∃ v c, e = .returned (.slice v bs.length c) ∧ Hid (Cl w (.slice v bs.length c) bs B) := by
  cases a with
  | none =>
    obtain ⟨rfl, rfl⟩ := hn rfl
    have hnil : ∀ W, (binOp .eql 35 (.slice none 0 0) (.slice none 0 0)).run Try.prog W = .ok (.bool true) W := fun W => Lib.run_eql_slice_nil W 35 5 _ 0 0 0 0 Try.underlying35
    have D : Hid (Cl w (.slice none 0 0) [] w) := ⟨World.ownsRow_nil _ _ _ _, Below.refl _ _⟩
    clear hr hn
    go_enter Try.func56, Try.ntmps56
    go_wp2
    go_ret
    exact ⟨none, 0, rfl, D⟩
  | some x =>
    have A : Hid (∀ ty, ∃ v' w', (Builtin.append_ #[35, 35] ty #[.slice (some ⟨w.heap.size, 0, none⟩) 0 0, .slice (some x) bs.length cap]).run Try.prog (w.alloc (.cells #[] 5)) = .ok v' w' ∧ ((∃ a c, v' = .slice a bs.length c) ∧ Hid (Cl w v' bs w'))) := fun ty => by
      obtain ⟨v', w', hr, ho, hg⟩ := app_b (empty_own w 5 e8) (hr.below ((Below.refl _ _).alloc (Nat.le_refl _) (.cells #[] 5))) hn (by omega) (by simp) ty
      rw [Nat.zero_add, List.nil_append] at ho
      exact ⟨v', w', hr, own_slice ho, ho, ((Keep.alloc _ _ _).trans (Keep.grown hg fun k hk => by simp [Value.ownBlock] at hk; omega)).below (K := fun k => k < w.heap.size) (fun _ h => h) (Nat.le_refl _)⟩
    have hnil : ∀ W, (binOp .eql 35 (.slice (some x) bs.length cap) (.slice none 0 0)).run Try.prog W = .ok (.bool false) W := fun W => Lib.run_eql_slice_nil W 35 5 _ bs.length cap 0 0 Try.underlying35
    clear hr hn
    generalize bs.length = n at *
    go_enter Try.func56, Try.ntmps56
    go_wp2_with (at_builtin; refine app_step _ rfl _ _ 35 rfl _ _ rfl rfl (A.out _) ?_; rintro v2 w2 ⟨⟨a, c, rfl⟩, q2⟩)
    go_ret
    exact ⟨_, _, rfl, q2⟩
/-- a tape (t: the program's type, or the document's) in block D. -/
structure Tp (t cap : Nat) (w : World) (D : Nat) (q : Option Addr) (bs : List Nat) (a : Nat) : Prop where
  blk : w.heap[D]? = some (.cells #[.slice q bs.length cap, .int .i64 (a : Int)] t (0, 0))
  lst : La e8 w q bs
  off : ∀ b o, q = some ⟨b, o, none⟩ → 0 < bs.length → b ≠ D
  len : bs.length ≤ 1000000
  bys : Bs bs
  le : a ≤ bs.length
  nil : q = none → bs = [] ∧ cap = 0
  cp : bs.length ≤ cap
namespace Tp
variable {t cap : Nat} {w w' : World} {D : Nat} {q : Option Addr} {bs : List Nat} {a : Nat}
theorem c0 (h : Tp t cap w D q bs a) : w.cell? ⟨D, 0, none⟩ = some (.slice q bs.length cap) := by rw [cell_of h.blk]; rfl
theorem c1 (h : Tp t cap w D q bs a) : w.cell? ⟨D, 1, none⟩ = some (.int .i64 (a : Int)) := by rw [cell_of h.blk]; rfl
theorem f1 (h : Tp t cap w D q bs a) : w.frozen? ⟨D, 1, none⟩ = false := frozen_of h.blk 1
theorem lt (h : Tp t cap w D q bs a) : D < w.heap.size := heap_lt h.blk
theorem keep {K : Nat → Prop} (h : Tp t cap w D q bs a) (hk : Keep K w w') (hD : K D) (hK : ∀ b o, q = some ⟨b, o, none⟩ → 0 < bs.length → K b) : Tp t cap w' D q bs a := ⟨hk.heap h.blk hD, h.lst.keep hk hK, h.off, h.len, h.bys, h.le, h.nil, h.cp⟩
theorem below (h : Tp t cap w D q bs a) (hb : Below w.heap.size w w') : Tp t cap w' D q bs a := h.keep (K := fun _ => True) (.of_below hb) trivial fun _ _ _ _ => trivial
theorem drewN (h : Tp t cap w D q bs a) (n : Nat) : Tp t cap (w.drewN n) D q bs a := h.below (below_drewN w n)
theorem step (h : Tp t cap w D q bs a) (a' : Nat) (ha : a' ≤ bs.length) : Tp t cap (w.setCell ⟨D, 1, none⟩ (.int .i64 (a' : Int))) D q bs a' :=
  ⟨heap_set h.blk 1 _, h.lst.keep (K := fun k => k ≠ D) (Keep.setCell _ _ _ (by simp)) h.off, h.off, h.len, h.bys, ha, h.nil, h.cp⟩
end Tp
/-- what reading leaves behind: the tape stands at a. -/
def Go1 (t cap : Nat) (w : World) (D : Nat) (q : Option Addr) (bs : List Nat) (a : Nat) (B : World) : Prop := Tp t cap B D q bs a ∧ Keep (fun k => k ≠ D) w B
namespace Go1
variable {t cap : Nat} {w w' : World} {D : Nat} {q : Option Addr} {bs : List Nat} {a a' : Nat}
theorem next (h : Tp t cap w D q bs a) (hb : Below w.heap.size w w') (ha : a' ≤ bs.length) : Go1 t cap w D q bs a' (w'.setCell ⟨D, 1, none⟩ (.int .i64 (a' : Int))) :=
  ⟨(h.below hb).step a' ha, (Keep.of_below hb).trans (Keep.setCell _ _ _ (by simp))⟩
theorem still (h : Tp t cap w D q bs a) (hb : Below w.heap.size w w') : Go1 t cap w D q bs a w' := ⟨h.below hb, Keep.of_below hb⟩
theorem trans {B : World} (h : Go1 t cap w D q bs a w') (k : Go1 t cap w' D q bs a' B) : Go1 t cap w D q bs a' B := ⟨k.1, h.2.trans k.2⟩
end Go1
/-- a tape that was made. -/
def Nw (w : World) (D cap : Nat) (q : Option Addr) (bs : List Nat) (B : World) : Prop := Tp 76 cap B D q bs 0 ∧ w.heap.size ≤ D ∧ (∀ b o, q = some ⟨b, o, none⟩ → w.heap.size ≤ b) ∧ Below w.heap.size w B
theorem Cl.box {w B : World} {v : Option Addr} {c : Nat} {bs : List Nat} (h : Cl w (.slice v bs.length c) bs B) (hl : bs.length ≤ 1000000) (hs : Bs bs) : Nw w B.heap.size c v bs (B.alloc (.cells #[.slice v bs.length c, .int .i64 0] 76)) := by
  obtain ⟨q, c', e, h1, h2, h3, h4⟩ := own_la h.1
  injection e with e1 _ e2
  subst e1 e2
  have hb : Below B.heap.size B (B.alloc (.cells #[.slice v bs.length c, .int .i64 0] 76)) := (Below.refl _ _).alloc (Nat.le_refl _) _
  refine ⟨⟨heap_next rfl _, h2.below hb, fun b o hq h0 => ?_, hl, hs, Nat.zero_le _, h3, h1⟩, h.2.size, h4, h.2.trans (hb.mono h.2.size)⟩
  have := h2.lt hq h0
  omega
theorem build38 (v : Option Addr) (n c : Nat) (w : World) : (Instr.build 76 #[(0, .slice v n c)]).run Try.prog w = .ok (.agg #[.slice v n c, .int .i64 0]) w := by kernel_rfl
set_option maxHeartbeats 1000000 in
theorem new6 (a : Option Addr) (bs : List Nat) (cap : Nat) (w : World) (hn : a = none → bs = [] ∧ cap = 0) (hl : bs.length ≤ 1000000) (hs : Bs bs) (hr : La e8 w a bs) :
    Calls Try.prog 34 #[.slice a bs.length cap] w fun e B => ∃ D c q, e = .returned (.pointer (some ⟨D, 0, none⟩)) ∧ Hid (Nw w D c q bs B) := by
  have C := Lib.hid (clone18 a bs cap w hn (by omega) hr)
  clear hr hn
  have E : Hid (∀ v c B, Hid (Cl w (.slice v bs.length c) bs B) → Nw w B.heap.size c v bs (B.alloc (.cells #[.slice v bs.length c, .int .i64 0] 76))) := fun v c B h => h.out.box hl hs
  obtain ⟨n, hn⟩ : ∃ n, bs.length = n := ⟨_, rfl⟩
  rw [hn] at C E ⊢
  clear hn hl hs
  go_enter Try.func34, Try.ntmps34
  go_wp2_with fail
  refine C.out.mono ?_
  rintro e w1 ⟨v, c, rfl, K⟩
  clear C
  have hb := build38 v n c
  go_wp2
  go_ret
  exact ⟨_, c, v, rfl, E.out v c _ K⟩
theorem left14 {w : World} {D cap : Nat} {q : Option Addr} {bs : List Nat} {a : Nat} (h : Tp 76 cap w D q bs a) :
    Calls Try.prog 39 #[.pointer (some ⟨D, 0, none⟩)] w fun e B => e = .returned (.int .i64 ((bs.length - a : Nat) : Int)) ∧ ∃ j, B = w.drewN j := by
  have c0 := h.c0
  have c1 := h.c1
  have hl := h.len
  have hle := h.le
  clear h
  generalize bs.length = n at *
  have e : (n : Int) - (a : Int) = ((n - a : Nat) : Int) := by omega
  go_enter Try.func39, Try.ntmps39
  go_wp2
  go_quiet (fail)
  go_wp2
  go_ret
  exact ⟨rfl, _, rfl⟩
end Go.Proofs.Ytfhcgildokdppaa.tp
