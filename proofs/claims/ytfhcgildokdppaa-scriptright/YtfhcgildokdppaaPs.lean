/-
  The three loops of a script's reading, step by step, for any tape (the program's, the document's).
-/
import Derived.Test.YtfhcgildokdppaaPc
namespace Go.Proofs.Ytfhcgildokdppaa
open Go.RowKit Go.Shelf tp
/-- no slice. -/
abbrev nl : Value := .slice none 0 0
/-- the cells of a script in the making. -/
abbrev S8v (c : Cfg) (v k d : Value) : Array Value := #[.int .i64 c.mx, .int .i64 c.bu, .int .i64 c.co, .int .i64 c.ba, .int .i64 c.bi, v, k, d]
section
variable (t cap : Nat) (w : World) (G : Nat → Prop) (D : Nat) (q : Option Addr) (cs : List Nat) (F Z : Nat) (c : Cfg) (R : World → Prop)
def L1 (j : Nat) (v : Value) (V : World) : Prop := Pf t cap w G D q cs (ppa cs (q6 cs) j) F Z (S8v c v nl nl) R V ∧ Lo Z V.heap.size V v (ppl cs (q6 cs) j)
def L2 (v : Value) (j : Nat) (d : Value) (V : World) : Prop := Pf t cap w G D q cs (pa cs (q8 cs) j) F Z (S8v c v nl d) R V ∧ V.ownsRow Z 3 1 d (dl cs (q8 cs) j).length ((dl cs (q8 cs) j).map eI)
def L3 (v d : Value) (j : Nat) (k : Value) (V : World) : Prop := Pf t cap w G D q cs (ad cs (q9 cs) j) F Z (S8v c v k d) R V ∧ V.ownsRow Z 3 1 k (kl cs (q9 cs) j).length ((kl cs (q9 cs) j).map eI)
end
variable {t cap : Nat} {w V B : World} {G : Nat → Prop} {D : Nat} {q : Option Addr} {cs : List Nat} {F Z Y : Nat} {c : Cfg} {R : World → Prop} {v k d : Value} {j : Nat}
theorem L1.drew (h : L1 t cap w G D q cs F Z c R j v V) : L1 t cap w G D q cs F Z c R j v V.drew := ⟨h.1.drewN 1, h.2.keep (Keep.drewN (fun _ => True) V 1) fun _ _ _ => trivial⟩
theorem L2.drewN (h : L2 t cap w G D q cs F Z c R v j d V) (n : Nat) : L2 t cap w G D q cs F Z c R v j d (V.drewN n) := ⟨h.1.drewN n, (Keep.drewN (fun _ => True) V n).own h.2 fun _ _ => trivial⟩
theorem L3.drewN (h : L3 t cap w G D q cs F Z c R v d j k V) (n : Nat) : L3 t cap w G D q cs F Z c R v d j k (V.drewN n) := ⟨h.1.drewN n, (Keep.drewN (fun _ => True) V n).own h.2 fun _ _ => trivial⟩
theorem L1.start (h : Pf t cap w G D q cs (q6 cs) F Z (S8v c nl nl nl) R V) : L1 t cap w G D q cs F Z c R 0 nl V := ⟨h, Lo.nil _ _ _⟩
theorem L1.sl (h : L1 t cap w G D q cs F Z c R j v V) : ∃ a n, v = .slice a j n := by
  have := h.2.sl
  rwa [ppl_len] at this
theorem L2.sl (h : L2 t cap w G D q cs F Z c R v j d V) : ∃ a n, d = .slice a j n := by
  have := tp.own_slice h.2
  rwa [dl_len] at this
theorem L3.sl (h : L3 t cap w G D q cs F Z c R v d j k V) : ∃ a n, k = .slice a j n := by
  have := tp.own_slice h.2
  rwa [kl_len] at this
theorem L1.step (h : L1 t cap w G D q cs F Z c R j v V) {fn : Nat} (hc : Calls Try.prog fn #[.pointer (some ⟨D, 0, none⟩)] V fun e B => ∃ p n, e = .returned (.slice p (pl cs (ppa cs (q6 cs) j)).length n) ∧ Tp t cap B D q cs (pz cs (ppa cs (q6 cs) j)) ∧ Keep (fun i => ¬ G i) V B ∧ B.ownsRow V.heap.size 53 5 (.slice p (pl cs (ppa cs (q6 cs) j)).length n) (pl cs (ppa cs (q6 cs) j)).length (flat (pl cs (ppa cs (q6 cs) j)))) (hj : j ≤ 1000) :
    Calls Try.prog fn #[.pointer (some ⟨D, 0, none⟩)] V fun e B => ∃ p n m, e = .returned (.slice p n m) ∧ B.cell? ⟨F, 5, none⟩ = some v ∧ (B.alloc (.cells #[.slice p n m] 30)).cell? ⟨F, 5, none⟩ = some v ∧ Hid (∀ ty, ∃ v' w', (Builtin.append_ #[24, 24] ty #[v, .slice (some ⟨B.heap.size, 0, none⟩) 1 1]).run Try.prog (B.alloc (.cells #[.slice p n m] 30)) = .ok v' w' ∧
      ((∃ p c, v' = .slice p (j + 1) c) ∧ w'.cell? ⟨F, 5, none⟩ = some v ∧ w'.frozen? ⟨F, 5, none⟩ = false ∧ Hid (L1 t cap w G D q cs F Z c R (j + 1) v' (w'.setCell ⟨F, 5, none⟩ v')))) := by
  have hl := ppl_len cs (q6 cs) j
  refine (h.1.prog_step h.2 5 rfl hc (by omega)).mono fun e B ⟨p, n, m, he, h1, h2, h3⟩ => ⟨p, n, m, he, h1, h2, fun ty => ?_⟩
  obtain ⟨v', w', hr, hs, c1, f1, h4⟩ := h3.out ty
  rw [hl] at hs
  exact ⟨v', w', hr, hs, c1, f1, h4.out⟩
theorem L2.step (h : L2 t cap w G D q cs F Z c R v j d V) {fn : Nat} (hc : Calls Try.prog fn #[.pointer (some ⟨D, 0, none⟩)] V fun e B => e = .returned (.int .i64 (iv cs (pa cs (q8 cs) j))) ∧ Hid (Go1 t cap V D q cs (ia cs (pa cs (q8 cs) j)) B)) (hj : j ≤ 1000) :
    Calls Try.prog fn #[.pointer (some ⟨D, 0, none⟩)] V fun e B => ∃ x', e = .returned (.int .i64 x') ∧ B.cell? ⟨F, 7, none⟩ = some d ∧ (B.alloc (.cells #[.int .i64 x'] 3)).cell? ⟨F, 7, none⟩ = some d ∧ Hid (∀ ty, ∃ v' w', (Builtin.append_ #[25, 25] ty #[d, .slice (some ⟨B.heap.size, 0, none⟩) 1 1]).run Try.prog (B.alloc (.cells #[.int .i64 x'] 3)) = .ok v' w' ∧
      ((∃ p c, v' = .slice p (j + 1) c) ∧ w'.cell? ⟨F, 7, none⟩ = some d ∧ w'.frozen? ⟨F, 7, none⟩ = false ∧ Hid (L2 t cap w G D q cs F Z c R v (j + 1) v' (w'.setCell ⟨F, 7, none⟩ v')))) := by
  have hl := dl_len cs (q8 cs) j
  refine (h.1.int_step h.2 7 rfl hc (by omega)).mono fun e B ⟨x, he, h1, h2, h3⟩ => ⟨x, he, h1, h2, fun ty => ?_⟩
  obtain ⟨v', w', hr, hs, c1, f1, h4⟩ := h3.out ty
  rw [hl] at hs
  exact ⟨v', w', hr, hs, c1, f1, h4.out⟩
theorem L3.step (h : L3 t cap w G D q cs F Z c R v d j k V) {fn : Nat} (hc : Calls Try.prog fn #[.pointer (some ⟨D, 0, none⟩)] V fun e B => e = .returned (.int .i64 (bt cs (ad cs (q9 cs) j) : Int)) ∧ Hid (Go1 t cap V D q cs (nx cs (ad cs (q9 cs) j)) B)) (hj : j ≤ 10000) :
    Calls Try.prog fn #[.pointer (some ⟨D, 0, none⟩)] V fun e B => ∃ x', e = .returned (.int .i64 x') ∧ B.cell? ⟨F, 6, none⟩ = some k ∧ (B.alloc (.cells #[.int .i64 x'] 3)).cell? ⟨F, 6, none⟩ = some k ∧ Hid (∀ ty, ∃ v' w', (Builtin.append_ #[25, 25] ty #[k, .slice (some ⟨B.heap.size, 0, none⟩) 1 1]).run Try.prog (B.alloc (.cells #[.int .i64 x'] 3)) = .ok v' w' ∧
      ((∃ p c, v' = .slice p (j + 1) c) ∧ w'.cell? ⟨F, 6, none⟩ = some k ∧ w'.frozen? ⟨F, 6, none⟩ = false ∧ Hid (L3 t cap w G D q cs F Z c R v d (j + 1) v' (w'.setCell ⟨F, 6, none⟩ v')))) := by
  have hl := kl_len cs (q9 cs) j
  refine (h.1.int_step h.2 6 rfl hc (by omega)).mono fun e B ⟨x, he, h1, h2, h3⟩ => ⟨x, he, h1, h2, fun ty => ?_⟩
  obtain ⟨v', w', hr, hs, c1, f1, h4⟩ := h3.out ty
  rw [hl] at hs
  exact ⟨v', w', hr, hs, c1, f1, h4.out⟩
/-- what stands while the draws are read, and the picks. -/
def R2 (R : World → Prop) (Z Y : Nat) (v : Value) (ps : List (List Opn)) (V : World) : Prop := R V ∧ Lo Z Y V v ps
def R3 (R : World → Prop) (Z Y : Nat) (d : Value) (ds : List Int) (V : World) : Prop := R V ∧ Di Z Y V d ds
theorem L2.start (h : Pf t cap w G D q cs (q8 cs) F Z (S8v c v nl nl) R V) (hL : Lo Z Y V v (ppl cs (q6 cs) (np cs))) (hY : Y ≤ V.heap.size) : L2 t cap w G D q cs F V.heap.size c (R2 R Z Y v (ppl cs (q6 cs) (np cs))) v 0 nl V :=
  ⟨h.rebase h.hZ (Nat.le_refl _) ⟨h.rest, hL⟩ fun A B hA hk => ⟨h.stab A B hA.1 (hk.mono fun _ _ hj => ⟨hj.1, hj.2.1, by have := h.hZ; omega⟩), hA.2.keep hk fun i h1 h2 => ⟨fun e => by have := (h.hG i e).2; have := h.hF; omega, by have := h.hF; omega, by omega⟩⟩, World.ownsRow_nil _ _ _ _⟩
theorem L3.start (h : L2 t cap w G D q cs F Z c R v (nd cs) d V) : L3 t cap w G D q cs F V.heap.size c (R3 R Z V.heap.size d (dl cs (q8 cs) (nd cs))) v d 0 nl V :=
  ⟨h.1.rebase h.1.hZ (Nat.le_refl _) ⟨h.1.rest, h.2, fun g e => (World.ownsRow.lt h.2 g e).2⟩ fun A B hA hk => ⟨h.1.stab A B hA.1 (hk.mono fun _ _ hj => ⟨hj.1, hj.2.1, by have := h.1.hZ; omega⟩), hA.2.keep hk fun i h1 h2 => ⟨fun e => by have := (h.1.hG i e).2; have := h.1.hF; omega, by have := h.1.hF; omega, by omega⟩⟩, World.ownsRow_nil _ _ _ _⟩
/-- eight cells written. -/
def set8 (W : World) (b : Nat) (a0 a1 a2 a3 a4 a5 a6 a7 : Value) : World := (((((((W.setCell ⟨b, 0, none⟩ a0).setCell ⟨b, 1, none⟩ a1).setCell ⟨b, 2, none⟩ a2).setCell ⟨b, 3, none⟩ a3).setCell ⟨b, 4, none⟩ a4).setCell ⟨b, 5, none⟩ a5).setCell ⟨b, 6, none⟩ a6).setCell ⟨b, 7, none⟩ a7
theorem put8 {W : World} {b : Nat} {x0 x1 x2 x3 x4 x5 x6 x7 : Value} (a0 a1 a2 a3 a4 a5 a6 a7 : Value) (h : W.heap[b]? = some (.cells #[x0, x1, x2, x3, x4, x5, x6, x7] 27 (0, 0))) : (set8 W b a0 a1 a2 a3 a4 a5 a6 a7).heap[b]? = some (.cells #[a0, a1, a2, a3, a4, a5, a6, a7] 27 (0, 0)) := by
  have h0 : (W.setCell ⟨b, 0, none⟩ a0).heap[b]? = some (.cells #[a0, x1, x2, x3, x4, x5, x6, x7] 27 (0, 0)) := heap_set h 0 a0
  have h1 : ((W.setCell ⟨b, 0, none⟩ a0).setCell ⟨b, 1, none⟩ a1).heap[b]? = some (.cells #[a0, a1, x2, x3, x4, x5, x6, x7] 27 (0, 0)) := heap_set h0 1 a1
  have h2 : (((W.setCell ⟨b, 0, none⟩ a0).setCell ⟨b, 1, none⟩ a1).setCell ⟨b, 2, none⟩ a2).heap[b]? = some (.cells #[a0, a1, a2, x3, x4, x5, x6, x7] 27 (0, 0)) := heap_set h1 2 a2
  have h3 : ((((W.setCell ⟨b, 0, none⟩ a0).setCell ⟨b, 1, none⟩ a1).setCell ⟨b, 2, none⟩ a2).setCell ⟨b, 3, none⟩ a3).heap[b]? = some (.cells #[a0, a1, a2, a3, x4, x5, x6, x7] 27 (0, 0)) := heap_set h2 3 a3
  have h4 : (((((W.setCell ⟨b, 0, none⟩ a0).setCell ⟨b, 1, none⟩ a1).setCell ⟨b, 2, none⟩ a2).setCell ⟨b, 3, none⟩ a3).setCell ⟨b, 4, none⟩ a4).heap[b]? = some (.cells #[a0, a1, a2, a3, a4, x5, x6, x7] 27 (0, 0)) := heap_set h3 4 a4
  have h5 : ((((((W.setCell ⟨b, 0, none⟩ a0).setCell ⟨b, 1, none⟩ a1).setCell ⟨b, 2, none⟩ a2).setCell ⟨b, 3, none⟩ a3).setCell ⟨b, 4, none⟩ a4).setCell ⟨b, 5, none⟩ a5).heap[b]? = some (.cells #[a0, a1, a2, a3, a4, a5, x6, x7] 27 (0, 0)) := heap_set h4 5 a5
  have h6 : (((((((W.setCell ⟨b, 0, none⟩ a0).setCell ⟨b, 1, none⟩ a1).setCell ⟨b, 2, none⟩ a2).setCell ⟨b, 3, none⟩ a3).setCell ⟨b, 4, none⟩ a4).setCell ⟨b, 5, none⟩ a5).setCell ⟨b, 6, none⟩ a6).heap[b]? = some (.cells #[a0, a1, a2, a3, a4, a5, a6, x7] 27 (0, 0)) := heap_set h5 6 a6
  have h7 : ((((((((W.setCell ⟨b, 0, none⟩ a0).setCell ⟨b, 1, none⟩ a1).setCell ⟨b, 2, none⟩ a2).setCell ⟨b, 3, none⟩ a3).setCell ⟨b, 4, none⟩ a4).setCell ⟨b, 5, none⟩ a5).setCell ⟨b, 6, none⟩ a6).setCell ⟨b, 7, none⟩ a7).heap[b]? = some (.cells #[a0, a1, a2, a3, a4, a5, a6, a7] 27 (0, 0)) := heap_set h6 7 a7
  exact h7
theorem keep8 (W : World) (b : Nat) (a0 a1 a2 a3 a4 a5 a6 a7 : Value) : Keep (fun k => k ≠ b) W (set8 W b a0 a1 a2 a3 a4 a5 a6 a7) :=
  (((((((Keep.setCell _ _ _ fun h => h rfl).trans (Keep.setCell _ _ _ fun h => h rfl)).trans (Keep.setCell _ _ _ fun h => h rfl)).trans (Keep.setCell _ _ _ fun h => h rfl)).trans (Keep.setCell _ _ _ fun h => h rfl)).trans (Keep.setCell _ _ _ fun h => h rfl)).trans (Keep.setCell _ _ _ fun h => h rfl)).trans (Keep.setCell _ _ _ fun h => h rfl)
abbrev At8 (W : World) (b : Nat) (a0 a1 a2 a3 a4 a5 a6 a7 : Value) : Prop := W.cell? ⟨b, 0, none⟩ = some a0 ∧ W.cell? ⟨b, 1, none⟩ = some a1 ∧ W.cell? ⟨b, 2, none⟩ = some a2 ∧ W.cell? ⟨b, 3, none⟩ = some a3 ∧ W.cell? ⟨b, 4, none⟩ = some a4 ∧ W.cell? ⟨b, 5, none⟩ = some a5 ∧ W.cell? ⟨b, 6, none⟩ = some a6 ∧ W.cell? ⟨b, 7, none⟩ = some a7
theorem at8 {W : World} {b : Nat} {a0 a1 a2 a3 a4 a5 a6 a7 : Value} (h : W.heap[b]? = some (.cells #[a0, a1, a2, a3, a4, a5, a6, a7] 27 (0, 0))) : At8 W b a0 a1 a2 a3 a4 a5 a6 a7 := ⟨cell_of h 0, cell_of h 1, cell_of h 2, cell_of h 3, cell_of h 4, cell_of h 5, cell_of h 6, cell_of h 7⟩
abbrev Fz8 (W : World) (b : Nat) : Prop := W.frozen? ⟨b, 0, none⟩ = false ∧ W.frozen? ⟨b, 1, none⟩ = false ∧ W.frozen? ⟨b, 2, none⟩ = false ∧ W.frozen? ⟨b, 3, none⟩ = false ∧ W.frozen? ⟨b, 4, none⟩ = false ∧ W.frozen? ⟨b, 5, none⟩ = false ∧ W.frozen? ⟨b, 6, none⟩ = false ∧ W.frozen? ⟨b, 7, none⟩ = false
theorem fz8 {W : World} {b : Nat} {arr : Array Value} {ty : TypeId} (h : W.heap[b]? = some (.cells arr ty (0, 0))) : Fz8 W b := ⟨frozen_of h 0, frozen_of h 1, frozen_of h 2, frozen_of h 3, frozen_of h 4, frozen_of h 5, frozen_of h 6, frozen_of h 7⟩
/-- at the end: what the result's box N is filled with reads as the script. -/
theorem L3.fin {Z1 Y1 Z2 Y2 N n1 n2 n3 c1 c2 c3 : Nat} {a1 a2 a3 : Option Addr} {R0 : World → Prop} {ps : List (List Opn)} {ds ks : List Int} (h : L3 t cap w G D q cs F Z c (R3 (R2 R0 Z1 Y1 (.slice a1 n1 c1) ps) Z2 Y2 (.slice a2 n2 c2) ds) (.slice a1 n1 c1) (.slice a2 n2 c2) j (.slice a3 n3 c3) V) (hks : kl cs (q9 cs) j = ks)
    (hN : N = w.heap.size) (h1 : N < Z1) (h2 : N < Z2) (h3 : N < Z) (hR : ∀ V, R0 V → V.heap[N]? = some (.cells (S8v ⟨0, 0, 0, 0, 0⟩ nl nl nl) 27 (0, 0))) :
    At8 V N (.int .i64 0) (.int .i64 0) (.int .i64 0) (.int .i64 0) (.int .i64 0) nl nl nl ∧ Fz8 V N ∧ At8 V F (.int .i64 c.mx) (.int .i64 c.bu) (.int .i64 c.co) (.int .i64 c.ba) (.int .i64 c.bi) (.slice a1 n1 c1) (.slice a3 n3 c3) (.slice a2 n2 c2) ∧
    ∀ C, set8 V N (.int .i64 c.mx) (.int .i64 c.bu) (.int .i64 c.co) (.int .i64 c.ba) (.int .i64 c.bi) (.slice a1 n1 c1) (.slice a3 n3 c3) (.slice a2 n2 c2) = C →
      At8 C N (.int .i64 c.mx) (.int .i64 c.bu) (.int .i64 c.co) (.int .i64 c.ba) (.int .i64 c.bi) (.slice a1 n1 c1) (.slice a3 n3 c3) (.slice a2 n2 c2) ∧ Hid (Sc C ⟨c, ps, ks, ds⟩ ⟨a1, c1, a3, c3, a2, c2⟩ ∧ Below w.heap.size w C) := by
  subst hks
  obtain ⟨hp, ho⟩ := h
  obtain ⟨⟨r0, rL⟩, rD⟩ := hp.rest
  have hO := hR V r0
  refine ⟨at8 hO, fz8 hO, at8 hp.box, fun C hC => ?_⟩
  subst hC
  have hk := keep8 V N (.int .i64 c.mx) (.int .i64 c.bu) (.int .i64 c.co) (.int .i64 c.ba) (.int .i64 c.bi) (.slice a1 n1 c1) (.slice a3 n3 c3) (.slice a2 n2 c2)
  have hO' := put8 (.int .i64 c.mx) (.int .i64 c.bu) (.int .i64 c.co) (.int .i64 c.ba) (.int .i64 c.bi) (.slice a1 n1 c1) (.slice a3 n3 c3) (.slice a2 n2 c2) hO
  refine ⟨at8 hO', ⟨?_, ?_, ?_⟩, hp.old.trans (hk.below (fun k hk => by omega) hp.old.size)⟩
  · exact (rL.keep hk fun i h1 h2 => by omega).lp
  · obtain ⟨p, c', e, _, h4, _⟩ := own_la (hk.own ho fun g e => by have := (World.ownsRow.lt ho g e).1; omega)
    injection e with e1
    subst e1
    exact h4
  · exact (rD.keep hk fun i h1 h2 => by omega).la
end Go.Proofs.Ytfhcgildokdppaa
