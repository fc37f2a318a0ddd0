/-
  PoolPlays, its state: the document's pool in the box X, the pool in block N, the buffers that are out; each apart; and what each step does to it.
-/
import Derived.Test.YtkobbilcpgffeaaRefs
import Derived.Laws.OwnMore
namespace Go.Proofs.Ytkobbilcpgffeaa
open Go.RowKit
/-- what is not the pool's: what lay before, the box, the row of those that are out, these, and F. -/
def Kb (N X : Nat) (vo : Value) (os : List Nat) (F : Nat → Prop) (k : Nat) : Prop := k < N ∨ k = X ∨ vo.ownBlock = some k ∨ k ∈ os ∨ F k
/-- the box holds bm, bn; the pool pm, pn; the buffers os are out, and those of E beside them. -/
structure St (w : World) (N X room spare bm bn pm pn : Nat) (vo : Value) (os : List Nat) (F E : Nat → Prop) (W : World) : Prop where
  box : W.heap[X]? = some (.cells #[.int .i64 (room : Int), .int .i64 (spare : Int), .int .i64 (bm : Int), .int .i64 (bn : Int)] 27 (0, 0))
  row : W.ownsRow N 22 1 vo os.length (os.map (bv room 1))
  bufs : ∀ g ∈ os, BufI W g room
  once : os.Nodup
  xo : X ∉ os
  vx : ∀ k, vo.ownBlock = some k → k ≠ X ∧ k ∉ os
  low : ∀ g ∈ os, N ≤ g
  fx : ∀ k, F k → k < W.heap.size ∧ X < k ∧ k ∉ os ∧ vo.ownBlock ≠ some k
  ex : ∀ g, E g → BufI W g room ∧ ¬ Kb N X vo os F g
  has : Has (fun k => Kb N X vo os F k ∨ E k) W N room spare pm pn
  old : Below N w W
  ge : N < X
abbrev no (_ : Nat) : Prop := False
namespace St
variable {w W W' : World} {N X room spare bm bn pm pn : Nat} {vo : Value} {os : List Nat} {F E : Nat → Prop}
theorem size (h : St w N X room spare bm bn pm pn vo os F E W) : N ≤ W.heap.size := by have := heap_lt h.box; have := h.ge; omega
theorem lt (h : St w N X room spare bm bn pm pn vo os F E W) {k : Nat} (hk : Kb N X vo os F k ∨ E k) : k < W.heap.size := by
  have := heap_lt h.box
  have := h.ge
  rcases hk with (hk | rfl | hk | hk | hk) | hk
  · omega
  · omega
  · exact (World.ownsRow.lt h.row k hk).2
  · exact (h.bufs k hk).lt
  · exact (h.fx k hk).1
  · exact (h.ex k hk).1.lt
/-- all that is not the pool's stands, and the pool has turned. -/
theorem turn {pm' pn' : Nat} (h : St w N X room spare bm bn pm pn vo os F E W) (hk : Keep (Kb N X vo os F) W W') {E' : Nat → Prop} (hE : ∀ g, E' g → BufI W' g room ∧ ¬ Kb N X vo os F g) (hh : Has (fun k => Kb N X vo os F k ∨ E' k) W' N room spare pm' pn') : St w N X room spare bm bn pm' pn' vo os F E' W' :=
  ⟨hk.heap h.box (.inr (.inl rfl)), hk.own h.row fun _ hv => .inr (.inr (.inl hv)), fun g hg => (h.bufs g hg).keep hk (.inr (.inr (.inr (.inl hg)))), h.once, h.xo, h.vx, h.low, fun k hf => ⟨Nat.lt_of_lt_of_le (h.fx k hf).1 hk.size, (h.fx k hf).2⟩, hE, hh, h.old.trans (hk.below (fun _ h => .inl h) h.size), h.ge⟩
theorem below (h : St w N X room spare bm bn pm pn vo os F E W) (hb : Below W.heap.size W W') : St w N X room spare bm bn pm pn vo os F E W' :=
  h.turn (.of_below hb fun _ hk => h.lt (.inl hk)) (fun g hg => ⟨(h.ex g hg).1.keep (K := fun k => k < W.heap.size) (.of_below hb fun _ h => h) (h.ex g hg).1.lt, (h.ex g hg).2⟩) (h.has.below hb)
theorem drewN (h : St w N X room spare bm bn pm pn vo os F E W) (m : Nat) : St w N X room spare bm bn pm pn vo os F E (W.drewN m) := h.below ((Keep.drewN (fun _ => True) W m).below (fun _ _ => trivial) (Nat.le_refl _))
theorem alloc (h : St w N X room spare bm bn pm pn vo os F E W) (o : Obj) : St w N X room spare bm bn pm pn vo os F E (W.alloc o) := h.below ((Below.refl _ W).alloc (Nat.le_refl _) o)
theorem x0 (h : St w N X room spare bm bn pm pn vo os F E W) : W.cell? ⟨X, 0, none⟩ = some (.int .i64 (room : Int)) := by rw [cell_of h.box]; rfl
theorem x1 (h : St w N X room spare bm bn pm pn vo os F E W) : W.cell? ⟨X, 1, none⟩ = some (.int .i64 (spare : Int)) := by rw [cell_of h.box]; rfl
theorem x2 (h : St w N X room spare bm bn pm pn vo os F E W) : W.cell? ⟨X, 2, none⟩ = some (.int .i64 (bm : Int)) := by rw [cell_of h.box]; rfl
theorem x3 (h : St w N X room spare bm bn pm pn vo os F E W) : W.cell? ⟨X, 3, none⟩ = some (.int .i64 (bn : Int)) := by rw [cell_of h.box]; rfl
theorem fr (h : St w N X room spare bm bn pm pn vo os F E W) (i : Nat) : W.frozen? ⟨X, i, none⟩ = false := frozen_of h.box i
theorem slice (h : St w N X room spare bm bn pm pn vo os F E W) : ∃ a cap, vo = .slice a os.length cap ∧ os.length ≤ cap := by
  rcases h.row.2 with ⟨rfl, h0⟩ | ⟨g, cap, cur, rfl, _, _, hc, _⟩
  · exact ⟨none, 0, by rw [h0], by omega⟩
  · exact ⟨_, cap, rfl, hc⟩
theorem some_ (h : St w N X room spare bm bn pm pn vo os F E W) (hb : 0 < os.length) : ∃ s cap, vo = .slice (some ⟨s, 0, none⟩) os.length cap ∧ os.length ≤ cap ∧ ∀ i (hi : i < os.length), W.cell? ⟨s, i, none⟩ = some (bv room 1 os[i]) := by
  have hr := h.row
  rcases hr.2 with ⟨rfl, h0⟩ | ⟨g, cap, cur, rfl, _, hg, hc, _⟩
  · omega
  · refine ⟨g, cap, rfl, hc, fun i hi => ?_⟩
    have := hr.cells (g := g) rfl i (bv room 1 os[i]) (by simp [hi])
    rwa [Addr.add_lit, Nat.zero_add] at this
/-- one is taken out of the pool. -/
theorem take (h : St w N X room spare bm bn pm pn vo os F no W) (hm : pm ≤ 1000000) : Calls Try.prog 8 #[.pointer (some ⟨N, 0, none⟩)] W fun e B => ∃ g, e = .returned (.slice (some ⟨g, 0, none⟩) 0 room) ∧ St w N X room spare bm bn (tm pm pn) (pn - 1) vo os F (fun k => k = g) B :=
  ((h.has.more fun _ hk => .inl (.inl hk)).take (K := Kb N X vo os F) (fun _ hk => h.lt (.inl hk)) hm).mono fun _ _ ⟨g, he, h1, h2, h3, h4⟩ => ⟨g, he, h.turn h4 (fun _ e => e ▸ ⟨h3, h2⟩) h1⟩
theorem give {g : Nat} (h : St w N X room spare bm bn pm pn vo os F (fun k => k = g) W) (m : Nat) : Calls Try.prog 11 #[.pointer (some ⟨N, 0, none⟩), .slice (some ⟨g, 0, none⟩) m room] W fun e B => e = .returned (.bool (decide (pn < spare))) ∧ St w N X room spare bm bn pm (gn pn spare) vo os F no B ∧ Keep (Kb N X vo os F) W B :=
  (h.has.give (h.ex g rfl).1 (h.ex g rfl).2 (fun _ hk => h.lt (.inl hk)) m).mono fun e B ⟨he, h1, h2⟩ => ⟨he, h.turn h2 (fun _ e => e.elim) (h1.more fun k hk => by rcases hk with hk | hk; exact .inl hk; exact hk.elim), h2⟩
/-- the box is written. -/
theorem set (h : St w N X room spare bm bn pm pn vo os F E W) (bm' bn' : Nat) (y z : Int) (hy : y = (bm' : Int)) (hz : z = (bn' : Int)) : St w N X room spare bm' bn' pm pn vo os F E ((((W.setCell ⟨X, 0, none⟩ (.int .i64 (room : Int))).setCell ⟨X, 1, none⟩ (.int .i64 (spare : Int))).setCell ⟨X, 2, none⟩ (.int .i64 y)).setCell ⟨X, 3, none⟩ (.int .i64 z)) := by
  subst hy hz
  obtain ⟨W', hW⟩ : ∃ W', W' = (((W.setCell ⟨X, 0, none⟩ (.int .i64 (room : Int))).setCell ⟨X, 1, none⟩ (.int .i64 (spare : Int))).setCell ⟨X, 2, none⟩ (.int .i64 (bm' : Int))).setCell ⟨X, 3, none⟩ (.int .i64 (bn' : Int)) := ⟨_, rfl⟩
  have hk : Keep (fun k => k ≠ X) W W' := by
    rw [hW]
    exact (((Keep.setCell _ _ _ fun h => h rfl).trans (Keep.setCell _ _ _ fun h => h rfl)).trans (Keep.setCell _ _ _ fun h => h rfl)).trans (Keep.setCell _ _ _ fun h => h rfl)
  have hb : W'.heap[X]? = some (.cells #[.int .i64 (room : Int), .int .i64 (spare : Int), .int .i64 (bm' : Int), .int .i64 (bn' : Int)] 27 (0, 0)) := by
    rw [hW, heap_set (heap_set (heap_set (heap_set h.box 0 _) 1 _) 2 _) 3 _]
    rfl
  rw [← hW]
  clear hW
  have hge := h.ge
  refine ⟨hb, hk.own h.row fun k hv => (h.vx k hv).1, fun g hg => (h.bufs g hg).keep hk fun e => h.xo (e ▸ hg), h.once, h.xo, h.vx, h.low, fun k hf => ⟨Nat.lt_of_lt_of_le (h.fx k hf).1 hk.size, (h.fx k hf).2⟩, fun g hg => ⟨(h.ex g hg).1.keep hk fun e => (h.ex g hg).2 (e ▸ .inr (.inl rfl)), (h.ex g hg).2⟩, h.has.keep hk fun k hK e => hK (.inl (.inr (.inl e))), h.old.trans (hk.below (fun k hk e => by omega) h.size), h.ge⟩
/-- a thing is put into the buffer that was taken. -/
theorem fill {g : Nat} (h : St w N X room spare bm bn pm pn vo os F (fun k => k = g) W) (x : Int) (ty : TypeId) :
    ∃ v' w', (Builtin.append_ #[22, 22] ty #[.slice (some ⟨g, 0, none⟩) 0 room, .slice (some ⟨W.heap.size, 0, none⟩) 1 1]).run Try.prog (W.alloc (.cells #[.int .i64 x] 3)) = .ok v' w' ∧ (v' = .slice (some ⟨g, 0, none⟩) 1 room ∧ Hid (St w N X room spare bm bn pm pn vo os F (fun k => k = g) w')) := by
  obtain ⟨hB, hg⟩ := h.ex g rfl
  have hlid := h.has.lids
  obtain ⟨i, hi, _, hz1, _⟩ := info_parts info_el
  have hA := h.alloc (.cells #[.int .i64 x] 3)
  obtain ⟨arr, h1, h2⟩ := (hA.ex g rfl).1
  have hmax : maxLen = 9223372036854775807 := by decide
  obtain ⟨w', hr, ho, hgr⟩ := run_append_fits (P := Try.prog) (W.alloc (.cells #[.int .i64 x] 3)) 0 22 ty 3 i 1 Try.underlying22 hi hz1 g 0 room [] ⟨rfl, .inr ⟨g, room, arr, rfl, Nat.zero_le _, h1, Nat.zero_le _, by omega, by omega, rfl⟩⟩ ⟨W.heap.size, 0, none⟩ 1 1 [.int .i64 x] rfl (fun j u hu => by
    rw [Addr.add_lit, cell_of (heap_next rfl _), Nat.zero_add]
    simpa using hu) (by simp [Value.oneCell']) (by omega)
  refine ⟨_, w', hr, rfl, ?_⟩
  have hk : Keep (fun k => k ≠ g) (W.alloc (.cells #[.int .i64 x] 3)) w' := Keep.grown hgr fun k e h => by injection e with e; exact h e.symm
  have hbuf : BufI w' g room := by
    rcases ho.2 with ⟨e, _⟩ | ⟨g', cap, cur, e, _, hg', _, _, hs, _⟩
    · simp at e
    · simp only [Value.slice.injEq, Option.some.injEq, Addr.mk.injEq, and_true, true_and] at e
      obtain ⟨rfl, rfl⟩ := e
      exact ⟨cur, hg', by omega⟩
  exact hA.turn (hk.mono fun k _ hk e => hg (e ▸ hk)) (fun _ e => e ▸ ⟨hbuf, hg⟩) (hA.has.keep hk fun k hK e => hK (.inr e))
/-- the buffer that was taken is out. -/
theorem put {g : Nat} (h : St w N X room spare bm bn pm pn vo os F (fun k => k = g) W) (hn : os.length ≤ 1000) (ty : TypeId) :
    ∃ v' w', (Builtin.append_ #[29, 29] ty #[vo, .slice (some ⟨W.heap.size, 0, none⟩) 1 1]).run Try.prog (W.alloc (.cells #[.slice (some ⟨g, 0, none⟩) 1 room] 22)) = .ok v' w' ∧ ((∃ s c, v' = .slice (some ⟨s, 0, none⟩) (os.length + 1) c) ∧ Hid (St w N X room spare bm bn pm pn v' (os ++ [g]) F no w')) := by
  obtain ⟨hB, hg⟩ := h.ex g rfl
  have hA := h.alloc (.cells #[.slice (some ⟨g, 0, none⟩) 1 room] 22)
  obtain ⟨s, cap, w', hr, ho, hgr, hat⟩ := app_one info_row Try.underlying29 (by rfl) (by decide) hA.row W.heap.size (x := .slice (some ⟨g, 0, none⟩) 1 room) rfl (heap_next rfl _) (by omega) hA.size ty
  refine ⟨_, w', hr, ⟨s, cap, rfl⟩, ?_⟩
  have hsz : (W.alloc (.cells #[.slice (some ⟨g, 0, none⟩) 1 room] 22)).heap.size = W.heap.size + 1 := by simp
  rw [hsz] at hat
  have hk : Keep (fun k => vo.ownBlock ≠ some k) (W.alloc (.cells #[.slice (some ⟨g, 0, none⟩) 1 room] 22)) w' := Keep.grown hgr fun k e h => h e
  have hXs := heap_lt h.box
  have hs : s ≠ X ∧ s ∉ os ∧ s ≠ g ∧ ¬ F s := by
    rcases hat with hat | rfl
    · exact ⟨(h.vx s hat).1, (h.vx s hat).2, fun e => hg (e ▸ .inr (.inr (.inl hat))), fun hf => (h.fx s hf).2.2.2 hat⟩
    · exact ⟨by omega, fun hb => by have := (h.bufs _ hb).lt; omega, by have := hB.lt; omega, fun hf => by have := (h.fx _ hf).1; omega⟩
  have hN := h.ge
  refine ⟨hk.heap hA.box fun e => (h.vx X e).1 rfl, by rw [List.map_append, List.length_append]; exact ho, fun b hb => ?_, ?_, ?_, fun k e => ?_, fun b hb => ?_, fun k hf => ⟨Nat.lt_of_lt_of_le (hA.fx k hf).1 hk.size, (h.fx k hf).2.1, ?_, fun e => ?_⟩, fun _ e => e.elim, ?_, hA.old.trans (hk.below (fun k hk e => by have := (World.ownsRow.lt h.row k e).1; omega) hA.size), h.ge⟩
  · rcases List.mem_append.1 hb with hb | hb
    · exact (hA.bufs b hb).keep hk fun e => (h.vx b e).2 hb
    · rw [List.mem_singleton] at hb
      subst hb
      exact (hA.ex b rfl).1.keep hk fun e => hg (.inr (.inr (.inl e)))
  · rw [List.nodup_append]
    refine ⟨h.once, by simp, fun a ha b hb e => hg (.inr (.inr (.inr (.inl ?_))))⟩
    rw [List.mem_singleton] at hb
    exact hb ▸ e ▸ ha
  · simp only [List.mem_append, List.mem_singleton, not_or]
    exact ⟨h.xo, fun e => hg (e ▸ .inr (.inl rfl))⟩
  · simp [Value.ownBlock] at e
    subst e
    simp only [List.mem_append, List.mem_singleton, not_or]
    exact ⟨hs.1, hs.2.1, hs.2.2.1⟩
  · rcases List.mem_append.1 hb with hb | hb
    · exact h.low b hb
    · rw [List.mem_singleton] at hb
      subst hb
      exact Nat.le_of_not_lt fun e => hg (.inl e)
  · simp only [List.mem_append, List.mem_singleton, not_or]
    exact ⟨(h.fx k hf).2.2.1, fun e => hg (e ▸ .inr (.inr (.inr (.inr hf))))⟩
  · simp [Value.ownBlock] at e
    subst e
    exact hs.2.2.2 hf
  · refine ((h.has.more (K' := fun k => (Kb N X vo os F k ∨ k = g) ∨ k = W.heap.size + 1) fun k hk => ?_).below ((Below.refl _ W).alloc (Nat.le_refl _) (.cells #[.slice (some ⟨g, 0, none⟩) 1 room] 22))).keep hk (fun k hK e => hK (.inl (.inl (.inr (.inr (.inl e)))))) |>.more fun k hk => .inl ?_
    · rcases hk with hk | rfl
      · exact .inl hk
      · exact .inr (by omega)
    · rcases hk with (hk | hk | hk | hk | hk) | hk
      · exact .inl (.inl (.inl hk))
      · exact .inl (.inl (.inr (.inl hk)))
      · simp [Value.ownBlock] at hk
        subst hk
        rcases hat with hat | hat
        · exact .inl (.inl (.inr (.inr (.inl hat))))
        · exact .inr hat
      · rcases List.mem_append.1 hk with hk | hk
        · exact .inl (.inl (.inr (.inr (.inr (.inl hk)))))
        · rw [List.mem_singleton] at hk
          exact .inl (.inr hk)
      · exact .inl (.inl (.inr (.inr (.inr (.inr hk)))))
      · exact hk.elim
end St
end Go.Proofs.Ytkobbilcpgffeaa
