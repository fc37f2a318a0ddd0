/-
  PoolApart, its state: the pool in block N, the buffers that are out, each with its own letter in all of its room; each apart; and what each step does to it.
-/
import Derived.Test.YtkobbilcpgffeaaStHas
import Derived.Test.YtkobbilcpgffeaaCut
namespace Go.Proofs.Ytkobbilcpgffeaa.st
open Go.RowKit
/-- the letter of round c. -/
def ch (c : Nat) : ByteArray := Utf8.encode (97 + (c : Int))
/-- the buffer in block g has the text s in all of its room. -/
def Full (W : World) (g room : Nat) (s : ByteArray) : Prop := ∃ arr : Array Value, W.heap[g]? = some (.cells arr 9 (0, 0)) ∧ arr.size = room ∧ ∀ j, j < room → arr[j]? = some (.string s)
namespace Full
variable {W W' : World} {g room : Nat} {s : ByteArray}
theorem buf (h : Full W g room s) : BufI W g room := by obtain ⟨arr, h1, h2, _⟩ := h; exact ⟨arr, h1, h2⟩
theorem keep {K : Nat → Prop} (h : Full W g room s) (hk : Keep K W W') (hK : K g) : Full W' g room s := by obtain ⟨arr, h1, h2, h3⟩ := h; exact ⟨arr, hk.heap h1 hK, h2, h3⟩
theorem cell (h : Full W g room s) {j : Nat} (hj : j < room) : W.cell? ⟨g, j, none⟩ = some (.string s) := by obtain ⟨arr, h1, _, h3⟩ := h; rw [cell_of h1]; exact h3 j hj
end Full
/-- what is not the pool's: what lay before, the row of those that are out, and these. -/
def Ka (N : Nat) (vo : Value) (os : List (Nat × Nat)) (k : Nat) : Prop := k < N ∨ vo.ownBlock = some k ∨ k ∈ os.map (·.1)
/-- the row vo has the buffers of vs; those of os are out, and those of E beside them. -/
structure Sa (w : World) (N room spare made n i : Nat) (vo : Value) (vs : List Nat) (os : List (Nat × Nat)) (E : Nat → Prop) (W : World) : Prop where
  row : W.ownsRow N 41 1 vo vs.length (vs.map (bv room room))
  full : ∀ p ∈ os, Full W p.1 room (ch p.2)
  once : (os.map (·.1)).Nodup
  other : (os.map (·.2)).Nodup
  low : ∀ p ∈ os, N ≤ p.1 ∧ p.2 < i
  vx : ∀ k, vo.ownBlock = some k → k ∉ os.map (·.1)
  ex : ∀ g, E g → BufI W g room ∧ ¬ Ka N vo os g
  has : Has (fun k => Ka N vo os k ∨ E k) W N room spare made n
  old : Below N w W
  size : N ≤ W.heap.size
namespace Sa
variable {w W W' : World} {N room spare made n i : Nat} {vo : Value} {vs : List Nat} {os : List (Nat × Nat)} {E : Nat → Prop}
theorem lt (h : Sa w N room spare made n i vo vs os E W) {k : Nat} (hk : Ka N vo os k ∨ E k) : k < W.heap.size := by
  have := h.size
  rcases hk with (hk | hk | hk) | hk
  · omega
  · exact (World.ownsRow.lt h.row k hk).2
  · obtain ⟨p, hp, rfl⟩ := List.mem_map.1 hk
    exact (h.full p hp).buf.lt
  · exact (h.ex k hk).1.lt
theorem turn {made' n' : Nat} (h : Sa w N room spare made n i vo vs os E W) (hk : Keep (Ka N vo os) W W') {E' : Nat → Prop} (hE : ∀ g, E' g → BufI W' g room ∧ ¬ Ka N vo os g) (hh : Has (fun k => Ka N vo os k ∨ E' k) W' N room spare made' n') : Sa w N room spare made' n' i vo vs os E' W' :=
  ⟨hk.own h.row fun _ hv => .inr (.inl hv), fun p hp => (h.full p hp).keep hk (.inr (.inr (List.mem_map_of_mem hp))), h.once, h.other, h.low, h.vx, hE, hh, h.old.trans (hk.below (fun _ h => .inl h) h.size), Nat.le_trans h.size hk.size⟩
theorem below (h : Sa w N room spare made n i vo vs os E W) (hb : Below W.heap.size W W') : Sa w N room spare made n i vo vs os E W' :=
  h.turn (.of_below hb fun _ hk => h.lt (.inl hk)) (fun g hg => ⟨(h.ex g hg).1.keep (K := fun k => k < W.heap.size) (.of_below hb fun _ h => h) (h.ex g hg).1.lt, (h.ex g hg).2⟩) (h.has.below hb)
theorem drewN (h : Sa w N room spare made n i vo vs os E W) (m : Nat) : Sa w N room spare made n i vo vs os E (W.drewN m) := h.below ((Keep.drewN (fun _ => True) W m).below (fun _ _ => trivial) (Nat.le_refl _))
theorem alloc (h : Sa w N room spare made n i vo vs os E W) (o : Obj) : Sa w N room spare made n i vo vs os E (W.alloc o) := h.below ((Below.refl _ W).alloc (Nat.le_refl _) o)
theorem late (h : Sa w N room spare made n i vo vs os E W) : Sa w N room spare made n (i + 1) vo vs os E W :=
  ⟨h.row, h.full, h.once, h.other, fun p hp => ⟨(h.low p hp).1, by have := (h.low p hp).2; omega⟩, h.vx, h.ex, h.has, h.old, h.size⟩
theorem some_ (h : Sa w N room spare made n i vo vs os E W) (hb : 0 < vs.length) : ∃ s cap, vo = .slice (some ⟨s, 0, none⟩) vs.length cap ∧ vs.length ≤ cap ∧ ∀ i (hi : i < vs.length), W.cell? ⟨s, i, none⟩ = some (bv room room vs[i]) := by
  have hr := h.row
  rcases hr.2 with ⟨rfl, h0⟩ | ⟨g, cap, cur, rfl, _, hg, hc, _⟩
  · omega
  · refine ⟨g, cap, rfl, hc, fun i hi => ?_⟩
    have := hr.cells (g := g) rfl i (bv room room vs[i]) (by simp [hi])
    rwa [Addr.add_lit, Nat.zero_add] at this
theorem room_ (h : Sa w N room spare made n i vo vs os E W) : Calls Try.prog 17 #[.pointer (some ⟨N, 0, none⟩)] W fun e B => e = .returned (.int .i64 (room : Int)) ∧ B = W := h.has.room_
/-- one is taken out of the pool. -/
theorem take (h : Sa w N room spare made n i vo vs os no W) (hm : made ≤ 1000000) : Calls Try.prog 16 #[.pointer (some ⟨N, 0, none⟩)] W fun e B => ∃ g, e = .returned (.slice (some ⟨g, 0, none⟩) 0 room) ∧ Sa w N room spare (tm made n) (n - 1) i vo vs os (fun k => k = g) B :=
  ((h.has.more fun _ hk => .inl (.inl hk)).take (K := Ka N vo os) (fun _ hk => h.lt (.inl hk)) hm).mono fun _ _ ⟨g, he, h1, h2, h3, h4⟩ => ⟨g, he, h.turn h4 (fun _ e => e ▸ ⟨h3, h2⟩) h1⟩
theorem give {g : Nat} (h : Sa w N room spare made n i vo vs os (fun k => k = g) W) (m : Nat) : Calls Try.prog 18 #[.pointer (some ⟨N, 0, none⟩), .slice (some ⟨g, 0, none⟩) m room] W fun e B => e = .returned (.bool (decide (n < spare))) ∧ Sa w N room spare made (gn n spare) i vo vs os no B :=
  (h.has.give (h.ex g rfl).1 (h.ex g rfl).2 (fun _ hk => h.lt (.inl hk)) m).mono fun _ _ ⟨he, h1, h2⟩ => ⟨he, h.turn h2 (fun _ e => e.elim) (h1.more fun k hk => by rcases hk with hk | hk; exact .inl hk; exact hk.elim)⟩
/-- k things are in the buffer that was taken: each is s. -/
def Part (W : World) (g room k : Nat) (s : ByteArray) : Prop := W.ownsRow 0 9 1 (.slice (some ⟨g, 0, none⟩) k room) k (List.replicate k (.string s))
theorem part0 {g : Nat} (h : Sa w N room spare made n i vo vs os (fun k => k = g) W) (s : ByteArray) : Part W g room 0 s := by
  obtain ⟨arr, h1, h2⟩ := (h.ex g rfl).1
  have := h.has.lids
  have hmax : maxLen = 9223372036854775807 := by decide
  exact ⟨rfl, .inr ⟨g, room, arr, rfl, Nat.zero_le _, h1, Nat.zero_le _, by omega, by omega, rfl⟩⟩
/-- one thing more. -/
theorem fill {g k : Nat} {s : ByteArray} (h : Sa w N room spare made n i vo vs os (fun k => k = g) W) (hp : Part W g room k s) (hk : k < room) (ty : TypeId) :
    ∃ v' w', (Builtin.append_ #[41, 41] ty #[.slice (some ⟨g, 0, none⟩) k room, .slice (some ⟨W.heap.size, 0, none⟩) 1 1]).run Try.prog (W.alloc (.cells #[.string s] 9)) = .ok v' w' ∧ (v' = .slice (some ⟨g, 0, none⟩) (k + 1) room ∧ Hid (Sa w N room spare made n i vo vs os (fun k => k = g) w' ∧ Part w' g room (k + 1) s)) := by
  obtain ⟨hB, hg⟩ := h.ex g rfl
  obtain ⟨inf, hi, _, hz1, _⟩ := info_parts info_el
  have hA := h.alloc (.cells #[.string s] 9)
  obtain ⟨w', hr, ho, hgr⟩ := run_append_fits (P := Try.prog) (W.alloc (.cells #[.string s] 9)) 0 41 ty 9 inf 1 Try.underlying41 hi hz1 g k room _ (hp.alloc (.cells #[.string s] 9)) ⟨W.heap.size, 0, none⟩ 1 1 [.string s] rfl (fun j u hu => by
    rw [Addr.add_lit, cell_of (heap_next rfl _), Nat.zero_add]
    simpa using hu) (by simp [Value.oneCell']) (by omega)
  have hk : Keep (fun k => k ≠ g) (W.alloc (.cells #[.string s] 9)) w' := Keep.grown hgr fun k e h => by injection e with e; exact h e.symm
  have hbuf : BufI w' g room := by
    rcases ho.2 with ⟨e, _⟩ | ⟨g', cap, cur, e, _, hg', _, _, hs, _⟩
    · simp at e
    · simp only [Value.slice.injEq, Option.some.injEq, Addr.mk.injEq, and_true, true_and] at e
      obtain ⟨rfl, rfl⟩ := e
      exact ⟨cur, hg', by omega⟩
  refine ⟨_, w', hr, rfl, hA.turn (hk.mono fun k _ hk e => hg (e ▸ hk)) (fun _ e => e ▸ ⟨hbuf, hg⟩) (hA.has.keep hk fun k hK e => hK (.inr e)), ?_⟩
  unfold Part
  rw [List.replicate_succ']
  exact ho
theorem Part.full {g : Nat} {s : ByteArray} (hp : Part W g room room s) : Full W g room s := by
  rcases hp.2 with ⟨e, _⟩ | ⟨g', cap, cur, e, _, hg', _, _, hs, ht⟩
  · simp at e
  · simp only [Value.slice.injEq, Option.some.injEq, Addr.mk.injEq, and_true, true_and] at e
    obtain ⟨rfl, rfl⟩ := e
    refine ⟨cur, hg', by omega, fun j hj => ?_⟩
    have h1 : (cur.toList.take (room * 1))[j]? = some (.string s) := by rw [ht, List.getElem?_replicate, if_pos hj]
    rw [List.getElem?_take, if_pos (by omega)] at h1
    simpa using h1
/-- the buffer that was filled is out. -/
theorem put {g : Nat} (h : Sa w N room spare made n i vo (os.map (·.1)) os (fun k => k = g) W) (hF : Full W g room (ch i)) (hn : os.length ≤ 1000) (ty : TypeId) :
    ∃ v' w', (Builtin.append_ #[40, 40] ty #[vo, .slice (some ⟨W.heap.size, 0, none⟩) 1 1]).run Try.prog (W.alloc (.cells #[.slice (some ⟨g, 0, none⟩) room room] 41)) = .ok v' w' ∧ ((∃ s c, v' = .slice (some ⟨s, 0, none⟩) (os.length + 1) c) ∧ Hid (Sa w N room spare made n (i + 1) v' ((os ++ [(g, i)]).map (·.1)) (os ++ [(g, i)]) no w')) := by
  obtain ⟨hB, hg⟩ := h.ex g rfl
  have hA := h.alloc (.cells #[.slice (some ⟨g, 0, none⟩) room room] 41)
  have hl : (os.map (·.1)).length = os.length := by simp
  obtain ⟨s, cap, w', hr, ho, hgr, hat⟩ := app_one info_row Try.underlying40 (by rfl) (by decide) hA.row W.heap.size (x := .slice (some ⟨g, 0, none⟩) room room) rfl (heap_next rfl _) (by omega) hA.size ty
  rw [hl] at hr ho
  refine ⟨_, w', hr, ⟨s, cap, rfl⟩, ?_⟩
  have hsz : (W.alloc (.cells #[.slice (some ⟨g, 0, none⟩) room room] 41)).heap.size = W.heap.size + 1 := by simp
  rw [hsz] at hat
  have hk : Keep (fun k => vo.ownBlock ≠ some k) (W.alloc (.cells #[.slice (some ⟨g, 0, none⟩) room room] 41)) w' := Keep.grown hgr fun k e h => h e
  have hs : s ∉ os.map (·.1) ∧ s ≠ g := by
    rcases hat with hat | rfl
    · exact ⟨h.vx s hat, fun e => hg (e ▸ .inr (.inl hat))⟩
    · exact ⟨fun hb => by have := h.lt (.inl (.inr (.inr hb))); omega, by have := hB.lt; omega⟩
  have hgm : g ∉ os.map (·.1) := fun hb => hg (.inr (.inr hb))
  refine ⟨?_, fun p hp => ?_, ?_, ?_, fun p hp => ?_, fun k e => ?_, fun _ e => e.elim, ?_, hA.old.trans (hk.below (fun k hk e => by have := (World.ownsRow.lt h.row k e).1; omega) hA.size), Nat.le_trans hA.size hk.size⟩
  · rw [List.map_append, List.map_append, List.length_append, hl]
    exact ho
  · rcases List.mem_append.1 hp with hp | hp
    · exact (hA.full p hp).keep hk fun e => h.vx p.1 e (List.mem_map_of_mem hp)
    · rw [List.mem_singleton] at hp
      subst hp
      exact (hF.keep (Keep.alloc (fun _ => True) _ _) trivial).keep hk fun e => hg (.inr (.inl e))
  · rw [List.map_append, List.nodup_append]
    refine ⟨h.once, by simp, fun a ha b hb e => hgm ?_⟩
    have hb' : b = g := by simpa using hb
    exact hb' ▸ e ▸ ha
  · rw [List.map_append, List.nodup_append]
    refine ⟨h.other, by simp, fun a ha b hb e => ?_⟩
    have hb' : b = i := by simpa using hb
    obtain ⟨p, hp, rfl⟩ := List.mem_map.1 ha
    have := (h.low p hp).2
    omega
  · rcases List.mem_append.1 hp with hp | hp
    · exact ⟨(h.low p hp).1, by have := (h.low p hp).2; omega⟩
    · rw [List.mem_singleton] at hp
      subst hp
      exact ⟨Nat.le_of_not_lt fun e => hg (.inl e), by simp⟩
  · simp [Value.ownBlock] at e
    subst e
    rw [List.map_append, List.mem_append, not_or]
    exact ⟨hs.1, by simpa using hs.2⟩
  · refine ((h.has.more (K' := fun k => (Ka N vo os k ∨ k = g) ∨ k = W.heap.size + 1) fun k hk => ?_).below ((Below.refl _ W).alloc (Nat.le_refl _) (.cells #[.slice (some ⟨g, 0, none⟩) room room] 41))).keep hk (fun k hK e => hK (.inl (.inl (.inr (.inl e))))) |>.more fun k hk => .inl ?_
    · rcases hk with hk | rfl
      · exact .inl hk
      · exact .inr (by omega)
    · rcases hk with (hk | hk | hk) | hk
      · exact .inl (.inl (.inl hk))
      · simp [Value.ownBlock] at hk
        subst hk
        rcases hat with hat | hat
        · exact .inl (.inl (.inr (.inl hat)))
        · exact .inr hat
      · rw [List.map_append, List.mem_append] at hk
        rcases hk with hk | hk
        · exact .inl (.inl (.inr (.inr hk)))
        · exact .inl (.inr (by simpa using hk))
      · exact hk.elim
/-- one of those that are out is no more of concern. -/
theorem drop {l1 l2 : List (Nat × Nat)} {p : Nat × Nat} (h : Sa w N room spare made n i vo vs (l1 ++ p :: l2) no W) : Sa w N room spare made n i vo vs (l1 ++ l2) (fun k => k = p.1) W := by
  have hsub : ∀ b, b ∈ l1 ++ l2 → b ∈ l1 ++ p :: l2 := fun b hb => by
    simp only [List.mem_append, List.mem_cons] at hb ⊢
    rcases hb with hb | hb
    · exact .inl hb
    · exact .inr (.inr hb)
  have hsubm : ∀ b, b ∈ (l1 ++ l2).map (·.1) → b ∈ (l1 ++ p :: l2).map (·.1) := fun b hb => by
    obtain ⟨q, hq, rfl⟩ := List.mem_map.1 hb
    exact List.mem_map_of_mem (hsub q hq)
  have hsl : List.Sublist (l1 ++ l2) (l1 ++ p :: l2) := List.Sublist.append_left (List.sublist_cons_self _ _) _
  have hpm : p ∈ l1 ++ p :: l2 := by simp
  have hpn : p.1 ∉ (l1 ++ l2).map (·.1) := by
    have h1 := h.once
    have : ((p :: (l1 ++ l2)).map (·.1)).Nodup := ((List.perm_middle.map (fun q : Nat × Nat => q.1)).nodup_iff).1 h1
    rw [List.map_cons] at this
    exact (List.nodup_cons.1 this).1
  refine ⟨h.row, fun q hq => h.full q (hsub q hq), h.once.sublist (hsl.map _), h.other.sublist (hsl.map _), fun q hq => h.low q (hsub q hq), fun k e hb => h.vx k e (hsubm k hb), fun g e => ?_, h.has.more fun k hk => .inl (.inl ?_), h.old, h.size⟩
  · subst e
    refine ⟨(h.full p hpm).buf, fun hK => ?_⟩
    rcases hK with hK | hK | hK
    · have := (h.low p hpm).1; omega
    · exact h.vx _ hK (List.mem_map_of_mem hpm)
    · exact hpn hK
  · rcases hk with (hk | hk | hk) | hk
    · exact .inl hk
    · exact .inr (.inl hk)
    · exact .inr (.inr (hsubm k hk))
    · exact .inr (.inr (hk ▸ List.mem_map_of_mem hpm))
/-- those that are still out lie in a row of their own. -/
theorem cut (h : Sa w N room spare made n i vo vs os no W) {w2 : World} {v2 : Value} {us : List Nat} (hk : Keep (fun k => k < W.heap.size) W w2) (ho : w2.ownsRow W.heap.size 41 1 v2 us.length (us.map (bv room room))) : Sa w N room spare made n i v2 us os no w2 := by
  have hv2 : ∀ k, v2.ownBlock = some k → W.heap.size ≤ k := fun k e => (World.ownsRow.lt ho k e).1
  have hsz := h.size
  have hro : w2.ownsRow N 41 1 v2 us.length (us.map (bv room room)) := by
    refine ⟨ho.1, ?_⟩
    rcases ho.2 with h0 | ⟨s, cap, cur, h1, h2, h3⟩
    · exact .inl h0
    · exact .inr ⟨s, cap, cur, h1, by omega, h3⟩
  refine ⟨hro, fun p hp => (h.full p hp).keep hk (h.full p hp).buf.lt, h.once, h.other, h.low, fun k e hb => ?_, fun _ e => e.elim, ?_, h.old.trans (hk.below (fun k hk => by omega) hsz), Nat.le_trans hsz hk.size⟩
  · have := hv2 k e
    have := h.lt (.inl (.inr (.inr hb)))
    omega
  · refine (h.has.more (K' := fun k => (Ka N vo os k ∨ no k) ∨ W.heap.size ≤ k) fun k hk => ?_).below (hk.below (fun _ h => h) (Nat.le_refl _)) |>.more fun k hk => .inl ?_
    · rcases hk with hk | hk
      · exact .inl hk
      · exact .inr hk
    · rcases hk with (hk | hk | hk) | hk
      · exact .inl (.inl (.inl hk))
      · exact .inr (hv2 k hk)
      · exact .inl (.inl (.inr (.inr hk)))
      · exact hk.elim
theorem part1 {s cap g : Nat} {l1 l2 : List Nat} (h : Sa w N room spare made n i (.slice (some ⟨s, 0, none⟩) (l1 ++ g :: l2).length cap) (l1 ++ g :: l2) os E W) (hn : (l1 ++ g :: l2).length ≤ 1000) (W1 : World) (hE : W1.heap[W.heap.size]? = some (.cells #[] 41 (0, 0))) (hk : Keep (fun k => k < W.heap.size) W W1) (ty : TypeId) :
    ∃ v' w', (Builtin.append_ #[40, 40] ty #[.slice (some ⟨W.heap.size, 0, none⟩) 0 0, .slice (some ⟨s, 0, none⟩) l1.length cap]).run Try.prog W1 = .ok v' w' ∧ Hid (w'.ownsRow W.heap.size 41 1 v' l1.length (l1.map (bv room room)) ∧ Keep (fun k => k < W.heap.size) W w') := by
  have hsl := (World.ownsRow.lt h.row s rfl).2
  obtain ⟨v', w', hr, ho, hg⟩ := app_any info_row Try.underlying40 (by rfl) (by decide) (W := W1) (base := W.heap.size) (v := .slice (some ⟨W.heap.size, 0, none⟩) 0 0) (n := 0) (xs := []) ⟨rfl, .inr ⟨_, 0, #[], rfl, Nat.le_refl _, hE, Nat.le_refl _, by decide, rfl, rfl⟩⟩ s 0 cap l1.length (ys := l1.map (bv room room)) (by simp) (fun u hu => by obtain ⟨b, _, rfl⟩ := List.mem_map.1 hu; rfl) (fun j u hu => by
    rw [Nat.zero_add]
    have := h.row.cells (g := s) rfl j u (by rw [List.map_append, List.getElem?_append_left (by have := (List.getElem?_eq_some_iff.1 hu).1; exact this)]; exact hu)
    rw [Addr.add_lit, Nat.zero_add] at this
    exact (hk.cell (p := ⟨s, j, none⟩) hsl hsl).trans this) (by simp at hn; omega) hk.size ty
  refine ⟨v', w', hr, by simpa using ho, hk.trans (Keep.grown hg fun k e h => ?_)⟩
  simp [Value.ownBlock] at e
  omega
theorem part2 {s cap o g : Nat} {l1 l2 : List Nat} (h : Sa w N room spare made n i (.slice (some ⟨s, 0, none⟩) (l1 ++ g :: l2).length cap) (l1 ++ g :: l2) os no W) (hn : (l1 ++ g :: l2).length ≤ 1000) (hO : l1.length + 1 < (l1 ++ g :: l2).length → o = l1.length + 1) (v1 : Value) (w1 : World) (h1 : Hid (w1.ownsRow W.heap.size 41 1 v1 l1.length (l1.map (bv room room)) ∧ Keep (fun k => k < W.heap.size) W w1)) (ty : TypeId) :
    ∃ v' w', (Builtin.append_ #[40, 40] ty #[v1, .slice (some ⟨s, o, none⟩) ((l1 ++ g :: l2).length - (l1.length + 1)) (cap - (l1.length + 1))]).run Try.prog w1 = .ok v' w' ∧ ((∃ a c, v' = .slice a (l1 ++ l2).length c) ∧ Hid (Sa w N room spare made n i v' (l1 ++ l2) os no w')) := by
  have hsl := (World.ownsRow.lt h.row s rfl).2
  obtain ⟨h1, hk⟩ := h1.out
  have hlen : (l1 ++ g :: l2).length = l1.length + 1 + l2.length := by simp; omega
  obtain ⟨v', w', hr, ho, hg⟩ := app_any info_row Try.underlying40 (by rfl) (by decide) h1 s o (cap - (l1.length + 1)) ((l1 ++ g :: l2).length - (l1.length + 1)) (ys := l2.map (bv room room)) (by simp; omega) (fun u hu => by obtain ⟨b, _, rfl⟩ := List.mem_map.1 hu; rfl) (fun j u hu => by
    have hj := (List.getElem?_eq_some_iff.1 hu).1
    rw [List.length_map] at hj
    rw [hO (by omega)]
    have := h.row.cells (g := s) rfl (l1.length + 1 + j) u (by
      rw [List.map_append, List.getElem?_append_right (by simp; omega), List.length_map, show l1.length + 1 + j - l1.length = j + 1 by omega, List.map_cons, List.getElem?_cons_succ]
      exact hu)
    rw [Addr.add_lit, Nat.zero_add] at this
    exact (hk.cell (p := ⟨s, l1.length + 1 + j, none⟩) hsl hsl).trans this) (by omega) hk.size ty
  have ho' : w'.ownsRow W.heap.size 41 1 v' (l1 ++ l2).length ((l1 ++ l2).map (bv room room)) := by
    rw [List.map_append, List.length_append]
    rwa [show l1.length + ((l1 ++ g :: l2).length - (l1.length + 1)) = l1.length + l2.length by omega] at ho
  refine ⟨v', w', hr, own_slice ho', h.cut (hk.trans (Keep.grown hg fun k e h' => ?_)) ho'⟩
  have := (World.ownsRow.lt h1 k e).1
  omega
end Sa
theorem elem40 : Try.prog.underlying 40 = some (.slice (Try.prog.elem 40)) := by kernel_rfl
theorem size40 (w : World) : (sizeOf (Try.prog.elem 40)).run Try.prog w = .ok 1 w := by kernel_rfl
theorem cut_h (s n cap k : Nat) (hk : k < n) (hc : n ≤ cap) : ∀ W', (Instr.slice 40 (.slice (some ⟨s, 0, none⟩) n cap) none (some (.int .i64 (k : Int))) none).run Try.prog W' = .ok (.slice (some ⟨s, 0, none⟩) k cap) W' := fun W' => by
  rw [run_slice_h W' 40 (some ⟨s, 0, none⟩) n cap elem40 .i64 k (by omega) (by omega), size40]
  have : ¬ cap = 0 := by omega
  simp [sliced, this, Addr.add]
theorem cut_l (s n cap k : Nat) (hk : k < n) (hc : n ≤ cap) : ∃ o, (∀ W', (Instr.slice 40 (.slice (some ⟨s, 0, none⟩) n cap) (some (.int .i64 ((k : Int) + 1))) none none).run Try.prog W' = .ok (.slice (some ⟨s, o, none⟩) (n - (k + 1)) (cap - (k + 1))) W') ∧ (k + 1 < n → o = k + 1) := by
  refine ⟨if cap = k + 1 then 0 else k + 1, fun W' => ?_, fun h => by rw [if_neg (by omega)]⟩
  rw [show ((k : Int) + 1) = ((k + 1 : Nat) : Int) by omega, run_slice_l W' 40 (some ⟨s, 0, none⟩) n cap elem40 .i64 ((k + 1 : Nat) : Int) (by omega) (by omega), size40]
  by_cases h : cap = k + 1 <;> simp [sliced, h, Addr.add]
end Go.Proofs.Ytkobbilcpgffeaa.st
