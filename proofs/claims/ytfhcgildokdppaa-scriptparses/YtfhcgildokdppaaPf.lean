/-
  A script in a box, filled out of a tape: rows of ints and of programs, made by appending.
-/
import Derived.Test.YtfhcgildokdppaaRf
import Derived.Test.YtfhcgildokdppaaRi
import Derived.RegionTactic
import Derived.Deep.RegionLaw
namespace Go.Proofs.Ytfhcgildokdppaa
open Go.RowKit Go.Shelf tp
/-- a row of programs of one's own: its blocks from Z on, below Y. -/
def Lo (Z Y : Nat) (V : World) (v : Value) (ps : List (List Opn)) : Prop := ∃ vs : List Value, V.ownsRow Z 30 1 v ps.length vs ∧ (∀ g, v.ownBlock = some g → g < Y) ∧ ∀ i (h : i < ps.length), ∃ u, vs[i]? = some u ∧ V.ownsRow Z 53 5 u ps[i].length (flat ps[i]) ∧ ∀ g, u.ownBlock = some g → g < Y
theorem Lo.nil (Z Y : Nat) (V : World) : Lo Z Y V (.slice none 0 0) [] := ⟨[], World.ownsRow_nil _ _ _ _, fun g h => (by cases h), fun i h => absurd h (by simp)⟩
theorem Lo.keep {Z Y : Nat} {V B : World} {v : Value} {ps : List (List Opn)} (h : Lo Z Y V v ps) {K : Nat → Prop} (hk : Keep K V B) (hK : ∀ j, Z ≤ j → j < Y → K j) : Lo Z Y B v ps := by
  obtain ⟨vs, h1, h2, h3⟩ := h
  refine ⟨vs, hk.own h1 fun k e => hK k (World.ownsRow.lt h1 k e).1 (h2 k e), h2, fun i hi => ?_⟩
  obtain ⟨u, h4, h5, h6⟩ := h3 i hi
  exact ⟨u, h4, hk.own h5 fun k e => hK k (World.ownsRow.lt h5 k e).1 (h6 k e), h6⟩
theorem Lo.mono {Z Y Y' : Nat} {V : World} {v : Value} {ps : List (List Opn)} (h : Lo Z Y V v ps) (hY : Y ≤ Y') : Lo Z Y' V v ps := by
  obtain ⟨vs, h1, h2, h3⟩ := h
  refine ⟨vs, h1, fun g e => Nat.lt_of_lt_of_le (h2 g e) hY, fun i hi => ?_⟩
  obtain ⟨u, h4, h5, h6⟩ := h3 i hi
  exact ⟨u, h4, h5, fun g e => Nat.lt_of_lt_of_le (h6 g e) hY⟩
theorem Lo.sl {Z Y : Nat} {V : World} {v : Value} {ps : List (List Opn)} (h : Lo Z Y V v ps) : ∃ a c, v = .slice a ps.length c := by
  obtain ⟨vs, h1, _⟩ := h
  exact tp.own_slice h1
/-- it reads as the programs. -/
theorem Lo.lp {Z Y : Nat} {V : World} {p : Option Addr} {n c : Nat} {ps : List (List Opn)} (h : Lo Z Y V (.slice p n c) ps) : Lp V p ps := fun h0 => by
  obtain ⟨vs, h1, _, h3⟩ := h
  rcases h1.2 with ⟨e, h4⟩ | ⟨g, cap, cur, e, hg, _, hc, _⟩
  · omega
  · injection e with e1 e2 e3
    subst e1
    refine ⟨g, 0, rfl, fun i hi => ?_⟩
    obtain ⟨u, h5, h6, _⟩ := h3 i hi
    obtain ⟨q, c', rfl, _, h7, _⟩ := Ea.of_own h6
    refine ⟨q, c', ?_, h7⟩
    have := h1.cells (g := g) (by rfl) i _ h5
    rwa [Addr.add_lit] at this
theorem info_p : (Try.prog.info? 30).map (fun i => (i.zero, i.size, i.bytes)) = some (some (.slice none 0 0), 1, 24) := by kernel_rfl
/-- rows of things of other types lie in other blocks. -/
theorem own_ne {V : World} {Z Z' : Nat} {e e' : TypeId} {s s' : Nat} {v u : Value} {n m : Nat} {xs ys : List Value} (he : e ≠ e') (h : V.ownsRow Z e s v n xs) (h' : V.ownsRow Z' e' s' u m ys) (g : Nat) (hg : v.ownBlock = some g) : ¬ u.ownBlock = some g := fun hu => by
  rcases h.2 with ⟨rfl, _⟩ | ⟨b, cap, cur, rfl, _, hb, _⟩
  · cases hg
  · rcases h'.2 with ⟨rfl, _⟩ | ⟨b', cap', cur', rfl, _, hb', _⟩
    · cases hu
    · simp [Value.ownBlock] at hg hu
      subst hg
      subst hu
      rw [hb] at hb'
      simp at hb'
      exact he hb'.2
/-- a program appended. -/
theorem push_prog {Z : Nat} {V : World} {v : Value} {ps : List (List Opn)} (h : Lo Z V.heap.size V v ps) {q : Option Addr} {l : List Opn} {c : Nat} (hu : V.ownsRow Z 53 5 (.slice q l.length c) l.length (flat l)) (hZ : Z ≤ V.heap.size) (hl : ps.length ≤ 1000000) (ty : TypeId) :
    ∃ v' w', (Builtin.append_ #[24, 24] ty #[v, .slice (some ⟨V.heap.size, 0, none⟩) 1 1]).run Try.prog (V.alloc (.cells #[.slice q l.length c] 30)) = .ok v' w' ∧ ((∃ a c, v' = .slice a (ps.length + 1) c) ∧ Lo Z w'.heap.size w' v' (ps ++ [l]) ∧ Keep (fun k => k < Z) V w') := by
  obtain ⟨i0, hi0, hz0, hz1, hz2⟩ := info_parts info_p
  have hmax : maxLen = 9223372036854775807 := by decide
  obtain ⟨vs, h1, h2, h3⟩ := h
  have e1 : vs.length = ps.length * 1 := by rcases h1 with ⟨e, _⟩; exact e
  obtain ⟨v', w1, hr, hown', hgrow, _⟩ := run_append_own (P := Try.prog) (V.alloc (.cells #[.slice q l.length c] 30)) Z 24 ty 30 i0 (.slice none 0 0) 1 24 Try.underlying24 hi0 hz0 hz1 hz2 rfl (by decide) v ps.length vs (h1.alloc _) ⟨V.heap.size, 0, none⟩ 1 1 [.slice q l.length c] rfl
    (fun j u hu => by
      rw [Addr.add_lit]
      have hh : (V.alloc (.cells #[.slice q l.length c] 30)).heap[V.heap.size]? = some (.cells #[.slice q l.length c] 30 (0, 0)) := World.alloc_heap_new _ _
      rw [cell_of hh, ← hu]
      simp) (fun u hu => by obtain rfl := List.mem_singleton.1 hu; rfl) (by omega) (by omega) (by simp; omega)
  have hk0 : Keep (fun k => ¬ v.ownBlock = some k) (V.alloc (.cells #[.slice q l.length c] 30)) w1 := Keep.grown hgrow fun j hj h' => h' hj
  have hk : Keep (fun k => ¬ v.ownBlock = some k) V w1 := (Keep.alloc _ _ _).trans hk0
  have hs : V.heap.size < w1.heap.size := Nat.lt_of_lt_of_le (by simp) hk0.size
  refine ⟨v', w1, hr, tp.own_slice hown', ⟨vs ++ [.slice q l.length c], by rw [List.length_append]; exact hown', fun g e => (World.ownsRow.lt hown' g e).2, fun i hi => ?_⟩, hk.mono fun k _ hkk e => by have := (World.ownsRow.lt h1 k e).1; omega⟩
  rw [List.length_append] at hi
  by_cases hi' : i < ps.length
  · obtain ⟨u, h4, h5, h6⟩ := h3 i hi'
    refine ⟨u, by rw [List.getElem?_append_left (by omega)]; exact h4, ?_, fun g e => by have := h6 g e; omega⟩
    rw [List.getElem_append_left hi']
    exact hk.own h5 fun k e e' => own_ne (by decide) h1 h5 k e' e
  · simp at hi
    obtain rfl : i = ps.length := by omega
    refine ⟨.slice q l.length c, by rw [List.getElem?_append_right (by omega)]; simp [e1], ?_, fun g e => by have := (World.ownsRow.lt hu g e).2; omega⟩
    rw [List.getElem_append_right (Nat.le_refl _)]
    simp only [Nat.sub_self, List.getElem_cons_zero]
    exact hk.own hu fun k e e' => own_ne (by decide) h1 hu k e' e
/-- a row of ints of one's own: its block from Z on, below Y. -/
def Di (Z Y : Nat) (V : World) (v : Value) (ys : List Int) : Prop := V.ownsRow Z 3 1 v ys.length (ys.map eI) ∧ ∀ g, v.ownBlock = some g → g < Y
theorem Di.keep {Z Y : Nat} {V B : World} {v : Value} {ys : List Int} (h : Di Z Y V v ys) {K : Nat → Prop} (hk : Keep K V B) (hK : ∀ j, Z ≤ j → j < Y → K j) : Di Z Y B v ys := ⟨hk.own h.1 fun k e => hK k (World.ownsRow.lt h.1 k e).1 (h.2 k e), h.2⟩
theorem Di.la {Z Y : Nat} {V : World} {p : Option Addr} {n c : Nat} {ys : List Int} (h : Di Z Y V (.slice p n c) ys) : La eI V p ys := by
  obtain ⟨q, c', e, _, h1, _⟩ := own_la h.1
  injection e with e1
  subst e1
  exact h1
/-- a tape, a script's box, and what else stands (G: the blocks that reading may touch). -/
structure Pf (t cap : Nat) (w : World) (G : Nat → Prop) (D : Nat) (q : Option Addr) (bs : List Nat) (a F Z : Nat) (S : Array Value) (R : World → Prop) (V : World) : Prop where
  old : Below w.heap.size w V
  tape : Tp t cap V D q bs a
  box : V.heap[F]? = some (.cells S 27 (0, 0))
  rest : R V
  stab : ∀ A B, R A → Keep (fun j => ¬ G j ∧ j ≠ F ∧ j < Z) A B → R B
  hG : ∀ j, G j → w.heap.size ≤ j ∧ j < F
  hD : G D
  hF : w.heap.size ≤ F ∧ F < Z
  hq : ∀ b o, q = some ⟨b, o, none⟩ → 0 < bs.length → b < F
  hZ : Z ≤ V.heap.size
namespace Pf
variable {t cap : Nat} {w V B : World} {G : Nat → Prop} {D : Nat} {q : Option Addr} {bs : List Nat} {a a' F Z : Nat} {S : Array Value} {R : World → Prop}
theorem DF (h : Pf t cap w G D q bs a F Z S R V) : D < F := (h.hG D h.hD).2
theorem cell (h : Pf t cap w G D q bs a F Z S R V) (i : Nat) : V.cell? ⟨F, i, none⟩ = S[i]? := cell_of h.box i
theorem frozen (h : Pf t cap w G D q bs a F Z S R V) (i : Nat) : V.frozen? ⟨F, i, none⟩ = false := frozen_of h.box i
/-- after a read. -/
theorem read (h : Pf t cap w G D q bs a F Z S R V) (ht : Tp t cap B D q bs a') (hk : Keep (fun j => ¬ G j) V B) : Pf t cap w G D q bs a' F Z S R B :=
  ⟨h.old.trans (hk.below (fun k hk e => by have := (h.hG k e).1; omega) h.old.size), ht, hk.heap h.box fun e => by have := (h.hG F e).2; omega, h.stab _ _ h.rest (hk.mono fun _ _ h => h.1), h.stab, h.hG, h.hD, h.hF, h.hq, Nat.le_trans h.hZ hk.size⟩
theorem go (h : Pf t cap w G D q bs a F Z S R V) (hg : Go1 t cap V D q bs a' B) : Pf t cap w G D q bs a' F Z S R B := h.read hg.1 (hg.2.mono fun _ _ hj e => hj (e ▸ h.hD))
/-- after what lies below Z stands. -/
theorem grow (h : Pf t cap w G D q bs a F Z S R V) (hk : Keep (fun j => j < Z) V B) : Pf t cap w G D q bs a F Z S R B :=
  ⟨h.old.trans (hk.below (fun k hk => by have := h.hF; omega) h.old.size), h.tape.keep hk (by have := h.DF; have := h.hF; omega) fun b o hb h0 => by have := h.hq b o hb h0; have := h.hF; omega, hk.heap h.box h.hF.2, h.stab _ _ h.rest (hk.mono fun _ _ h => h.2.2), h.stab, h.hG, h.hD, h.hF, h.hq, Nat.le_trans h.hZ hk.size⟩
/-- after a store into the script's box. -/
theorem put (h : Pf t cap w G D q bs a F Z S R V) (i : Nat) (v : Value) : Pf t cap w G D q bs a F Z (S.setIfInBounds i v) R (V.setCell ⟨F, i, none⟩ v) := by
  have hk : Keep (fun j => j ≠ F) V (V.setCell ⟨F, i, none⟩ v) := Keep.setCell _ _ _ fun h => h rfl
  exact ⟨h.old.trans (hk.below (fun k hk => by have := h.hF; omega) h.old.size), h.tape.keep hk (by have := h.DF; omega) fun b o hb h0 => by have := h.hq b o hb h0; omega, heap_set h.box i v, h.stab _ _ h.rest (hk.mono fun _ _ h => h.2.1), h.stab, h.hG, h.hD, h.hF, h.hq, Nat.le_trans h.hZ hk.size⟩
theorem drewN (h : Pf t cap w G D q bs a F Z S R V) (n : Nat) : Pf t cap w G D q bs a F Z S R (V.drewN n) := h.grow (Keep.drewN _ _ _)
/-- a new base, and more that stands. -/
theorem rebase (h : Pf t cap w G D q bs a F Z S R V) {Z' : Nat} {R' : World → Prop} (hZ : Z ≤ Z') (hZ' : Z' ≤ V.heap.size) (hr : R' V) (hs : ∀ A B, R' A → Keep (fun j => ¬ G j ∧ j ≠ F ∧ j < Z') A B → R' B) : Pf t cap w G D q bs a F Z' S R' V :=
  ⟨h.old, h.tape, h.box, hr, hs, h.hG, h.hD, ⟨h.hF.1, Nat.lt_of_lt_of_le h.hF.2 hZ⟩, h.hq, hZ'⟩
/-- an int of the tape read, and appended to a slice of the script. -/
theorem int_step (h : Pf t cap w G D q bs a F Z S R V) {v : Value} {ys : List Int} (ho : V.ownsRow Z 3 1 v ys.length (ys.map eI)) (i : Nat) (hi : S[i]? = some v) {fn : Nat} {x : Int} (hc : Calls Try.prog fn #[.pointer (some ⟨D, 0, none⟩)] V fun e B => e = .returned (.int .i64 x) ∧ Hid (Go1 t cap V D q bs a' B)) (hl : ys.length ≤ 1000000) :
    Calls Try.prog fn #[.pointer (some ⟨D, 0, none⟩)] V fun e B => ∃ x', e = .returned (.int .i64 x') ∧ B.cell? ⟨F, i, none⟩ = some v ∧ (B.alloc (.cells #[.int .i64 x'] 3)).cell? ⟨F, i, none⟩ = some v ∧ Hid (∀ ty, ∃ v' w', (Builtin.append_ #[25, 25] ty #[v, .slice (some ⟨B.heap.size, 0, none⟩) 1 1]).run Try.prog (B.alloc (.cells #[.int .i64 x'] 3)) = .ok v' w' ∧
      ((∃ p c, v' = .slice p (ys.length + 1) c) ∧ w'.cell? ⟨F, i, none⟩ = some v ∧ w'.frozen? ⟨F, i, none⟩ = false ∧ Hid (Pf t cap w G D q bs a' F Z (S.setIfInBounds i v') R (w'.setCell ⟨F, i, none⟩ v') ∧ (w'.setCell ⟨F, i, none⟩ v').ownsRow Z 3 1 v' (ys ++ [x]).length ((ys ++ [x]).map eI)))) := by
  refine hc.mono fun e B ⟨he, hg⟩ => ?_
  have hB := h.go hg.out
  have hoB : B.ownsRow Z 3 1 v ys.length (ys.map eI) := hg.out.2.own ho fun k e e' => by
    have := (World.ownsRow.lt ho k e).1
    have := h.DF
    have := h.hF
    omega
  refine ⟨x, he, (hB.cell i).trans hi, ((hB.grow (Keep.alloc _ _ _)).cell i).trans hi, fun ty => ?_⟩
  obtain ⟨v', w', hr, hs, h1, h2⟩ := push_ints (base := Z) (w := B) ⟨hoB, Keep.refl _ _, hB.hZ⟩ [x] 1 rfl #[.int .i64 x] rfl (by omega) ty
  have hw := hB.grow (h2.out.mono fun k _ hk e => by have := (World.ownsRow.lt hoB k e).1; omega)
  have hk : Keep (fun j => j ≠ F) w' (w'.setCell ⟨F, i, none⟩ v') := Keep.setCell _ _ _ fun h => h rfl
  exact ⟨v', w', hr, hs, (hw.cell i).trans hi, hw.frozen i, hw.put i v', hk.own h1.out.1 fun k e e' => by
    have := (World.ownsRow.lt h1.out.1 k e).1
    have := h.hF
    omega⟩
/-- a program of the tape read, and appended to a slice of the script. -/
theorem prog_step (h : Pf t cap w G D q bs a F Z S R V) {v : Value} {ps : List (List Opn)} (ho : Lo Z V.heap.size V v ps) (i : Nat) (hi : S[i]? = some v) {fn : Nat} {l : List Opn} (hc : Calls Try.prog fn #[.pointer (some ⟨D, 0, none⟩)] V fun e B => ∃ p c, e = .returned (.slice p l.length c) ∧ Tp t cap B D q bs a' ∧ Keep (fun j => ¬ G j) V B ∧ B.ownsRow V.heap.size 53 5 (.slice p l.length c) l.length (flat l)) (hl : ps.length ≤ 1000000) :
    Calls Try.prog fn #[.pointer (some ⟨D, 0, none⟩)] V fun e B => ∃ p n c, e = .returned (.slice p n c) ∧ B.cell? ⟨F, i, none⟩ = some v ∧ (B.alloc (.cells #[.slice p n c] 30)).cell? ⟨F, i, none⟩ = some v ∧ Hid (∀ ty, ∃ v' w', (Builtin.append_ #[24, 24] ty #[v, .slice (some ⟨B.heap.size, 0, none⟩) 1 1]).run Try.prog (B.alloc (.cells #[.slice p n c] 30)) = .ok v' w' ∧
      ((∃ p c, v' = .slice p (ps.length + 1) c) ∧ w'.cell? ⟨F, i, none⟩ = some v ∧ w'.frozen? ⟨F, i, none⟩ = false ∧ Hid (Pf t cap w G D q bs a' F Z (S.setIfInBounds i v') R (w'.setCell ⟨F, i, none⟩ v') ∧ Lo Z (w'.setCell ⟨F, i, none⟩ v').heap.size (w'.setCell ⟨F, i, none⟩ v') v' (ps ++ [l])))) := by
  refine hc.mono fun e B ⟨p, c, he, h1, h2, h3⟩ => ?_
  have hB := h.read h1 h2
  have hoB : Lo Z V.heap.size B v ps := ho.keep h2 fun j hj _ e' => by
    have := (h.hG j e').2
    have := h.hF
    omega
  have h3' : B.ownsRow Z 53 5 (.slice p l.length c) l.length (flat l) := ⟨h3.1, by
    rcases h3.2 with h4 | ⟨g, cap, cur, h6, h7, h8⟩
    · exact .inl h4
    · exact .inr ⟨g, cap, cur, h6, by have := h.hZ; omega, h8⟩⟩
  refine ⟨p, l.length, c, he, (hB.cell i).trans hi, ((hB.grow (Keep.alloc _ _ _)).cell i).trans hi, fun ty => ?_⟩
  obtain ⟨v', w', hr, hs, h5, h6⟩ := push_prog (hoB.mono h2.size) h3' hB.hZ hl ty
  have hw := hB.grow h6
  have hk : Keep (fun j => j ≠ F) w' (w'.setCell ⟨F, i, none⟩ v') := Keep.setCell _ _ _ fun h => h rfl
  exact ⟨v', w', hr, hs, (hw.cell i).trans hi, hw.frozen i, hw.put i v', (h5.keep hk fun k hk _ e' => by
    have := h.hF
    omega).mono hk.size⟩
end Pf
/-- what the reading of a program leaves, in short. -/
theorem read_p {cap : Nat} {V : World} {D : Nat} {q : Option Addr} {bs : List Nat} {a : Nat} (h : Tp 76 cap V D q bs a) : Calls Try.prog 38 #[.pointer (some ⟨D, 0, none⟩)] V fun e B => ∃ p c, e = .returned (.slice p (pl bs a).length c) ∧ Tp 76 cap B D q bs (pz bs a) ∧ Keep (fun j => ¬ Ft D q bs j) V B ∧ B.ownsRow V.heap.size 53 5 (.slice p (pl bs a).length c) (pl bs a).length (flat (pl bs a)) :=
  (read16 h).mono fun e B ⟨p, c, he, hB⟩ => by
    have hl : (pl bs a).length = pn bs a := ql_len _ _ _
    rw [hl]
    have h1 := hB.out.row.1
    rw [hl] at h1
    exact ⟨p, c, he, hB.out.tape, hB.out.row.2.1.mono fun k hk hj => ⟨hk, hj⟩, h1⟩
theorem read_r {cap : Nat} {V : World} {D : Nat} {q : Option Addr} {bs : List Nat} {a : Nat} (h : Tp 63 cap V D q bs a) : Calls Try.prog 43 #[.pointer (some ⟨D, 0, none⟩)] V fun e B => ∃ p c, e = .returned (.slice p (pl bs a).length c) ∧ Tp 63 cap B D q bs (pz bs a) ∧ Keep (fun j => ¬ j = D) V B ∧ B.ownsRow V.heap.size 53 5 (.slice p (pl bs a).length c) (pl bs a).length (flat (pl bs a)) :=
  (refread18 h).mono fun e B ⟨p, c, he, hB⟩ => by
    have hl : (pl bs a).length = pn bs a := ql_len _ _ _
    rw [hl]
    have h1 := hB.out.row.1
    rw [hl] at h1
    exact ⟨p, c, he, hB.out.tape, hB.out.row.2.1.mono fun k hk hj => ⟨hk, hj⟩, h1⟩
end Go.Proofs.Ytfhcgildokdppaa
