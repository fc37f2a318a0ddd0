/-
  Of no function: the rows of the document's sketch as they lie in memory ('Rr'), and as they are made one by one ('Bu').
-/
import Derived.Test.YthjbkabkoolfdaaDoorSkRf
import Derived.Test.YthjbkabkoolfdaaDoorSkDo
import Derived.Deep.AppendLies
namespace Go.Proofs.YthjbkabkoolfdaaDoor.sk
open Go.RowKit
open nb (Keep Nib ct cell_of frozen_of heap_set heap_set_other heap_old heap_next heap_lt getAt mayAdd addAt Q e64 info_parts)
/-- a row of one's own, and what lies at another address. -/
theorem app_row {P : Program} {t e : TypeId} {z : Value} {bytes : Nat} (hinfo : (P.info? e).map (fun i => (i.zero, i.size, i.bytes)) = some (some z, 1, bytes)) (ht : P.underlying t = some (.slice e)) (hz : z.cells.size = 1) (hby : bytes ≤ 24) {W : World} {base : Nat} {v : Value} {n : Nat} {xs ys : List Value} (hown : W.ownsRow base e 1 v n xs)
    (X o c : Nat) (h1 : ∀ u ∈ ys, u.oneCell' = true) (hX : ∀ j u, ys[j]? = some u → W.cell? ⟨X, o + j, none⟩ = some u) (hy : 0 < ys.length) (hn : n + ys.length ≤ 1000000) (hb : base ≤ W.heap.size) (ty : TypeId) :
    ∃ s cap w', (Builtin.append_ #[t, t] ty #[v, .slice (some ⟨X, o, none⟩) ys.length c]).run P W = .ok (.slice (some ⟨s, 0, none⟩) (n + ys.length) cap) w' ∧ w'.ownsRow base e 1 (.slice (some ⟨s, 0, none⟩) (n + ys.length) cap) (n + ys.length) (xs ++ ys) ∧ W.grownBy w' v.ownBlock ∧ (v.ownBlock = some s ∨ s = W.heap.size) := by
  obtain ⟨i, hi, hz0, hz1, hz2⟩ := info_parts hinfo
  have hmax : maxLen = 9223372036854775807 := by decide
  have hbb : (n + ys.length) * bytes ≤ 1000000 * 24 := Nat.mul_le_mul hn hby
  obtain ⟨g, cap, w', hr, h2, h3, h4, _⟩ := run_append_lies (P := P) W t ty base e i z 1 bytes ht hi hz0 hz1 hz2 hz (by decide) v n xs hown ⟨X, o, none⟩ ys.length c ys (by simp) (fun j u hu => by
    rw [show (⟨X, o, none⟩ : Addr).add j = ⟨X, o + j, none⟩ by simp [Addr.add]]
    exact hX j u hu) h1 hy (by omega) (by omega) hb W.heap.size rfl
  exact ⟨g, cap, w', hr, h2, h3, h4⟩
theorem app_one {P : Program} {t e : TypeId} {z : Value} {bytes : Nat} (hinfo : (P.info? e).map (fun i => (i.zero, i.size, i.bytes)) = some (some z, 1, bytes)) (ht : P.underlying t = some (.slice e)) (hz : z.cells.size = 1) (hby : bytes ≤ 24) {W : World} {base : Nat} {v : Value} {n : Nat} {xs : List Value} (hown : W.ownsRow base e 1 v n xs)
    (X : Nat) {x : Value} (h1 : x.oneCell' = true) (hX : W.heap[X]? = some (.cells #[x] e (0, 0))) (hn : n + 1 ≤ 1000000) (hb : base ≤ W.heap.size) (ty : TypeId) :
    ∃ s cap w', (Builtin.append_ #[t, t] ty #[v, .slice (some ⟨X, 0, none⟩) 1 1]).run P W = .ok (.slice (some ⟨s, 0, none⟩) (n + 1) cap) w' ∧ w'.ownsRow base e 1 (.slice (some ⟨s, 0, none⟩) (n + 1) cap) (n + 1) (xs ++ [x]) ∧ W.grownBy w' v.ownBlock ∧ (v.ownBlock = some s ∨ s = W.heap.size) :=
  app_row hinfo ht hz hby hown X 0 1 (ys := [x]) (by simpa using h1) (fun j u hu => by
    rw [cell_of hX, Nat.zero_add]
    simpa using hu) (by simp) (by simpa using hn) hb ty
theorem info_l : (Tryd.prog.info? 70).map (fun i => (i.zero, i.size, i.bytes)) = some (some (.slice none 0 0), 1, 24) := by kernel_rfl
/-- a slice of k lists reads as f 0, f 1, ..; none of its blocks is outside of K. -/
def Rr (K : Nat → Prop) (W : World) (v : Value) (k : Nat) (f : Nat → List Nat) : Prop :=
  ∃ b o cap, ∃ vs : Nat → Value, v = .slice (some ⟨b, o, none⟩) k cap ∧ k ≤ cap ∧ K b ∧ ∀ i, i < k → W.cell? ⟨b, o + i, none⟩ = some (vs i) ∧ Q e64 W (vs i) (f i) ∧ ∀ b', (vs i).ownBlock = some b' → K b'
namespace Rr
variable {K K' : Nat → Prop} {W B : World} {v : Value} {k : Nat} {f : Nat → List Nat}
theorem keep (h : Rr K W v k f) (hk : Keep K W B) : Rr K B v k f := by
  obtain ⟨b, o, cap, vs, hv, hc, hb, hi⟩ := h
  refine ⟨b, o, cap, vs, hv, hc, hb, fun i hk' => ?_⟩
  obtain ⟨h1, h2, h3⟩ := hi i hk'
  exact ⟨(hk.cell (p := ⟨b, o + i, none⟩) (World.block_lt_of_cell? W ⟨b, o + i, none⟩ h1) hb).trans h1, h2.keep hk h3, h3⟩
theorem at_ (h : Rr K W v k f) (i : Nat) (hi : i < k) : ∃ b o cap u, v = .slice (some ⟨b, o, none⟩) k cap ∧ W.cell? ⟨b, o + i, none⟩ = some u ∧ Q e64 W u (f i) ∧ ∀ b', u.ownBlock = some b' → K b' := by
  obtain ⟨b, o, cap, vs, hv, hc, hb, hi'⟩ := h
  obtain ⟨h1, h2, h3⟩ := hi' i hi
  exact ⟨b, o, cap, vs i, hv, h1, h2, h3⟩
theorem mono (h : Rr K W v k f) (hK : ∀ b, K b → K' b) : Rr K' W v k f := by
  obtain ⟨b, o, cap, vs, hv, hc, hb, hi⟩ := h
  exact ⟨b, o, cap, vs, hv, hc, hK b hb, fun i hik => ⟨(hi i hik).1, (hi i hik).2.1, fun b' hb' => hK b' ((hi i hik).2.2 b' hb')⟩⟩
theorem slice (h : Rr K W v k f) : ∃ a cap, v = .slice a k cap := by
  obtain ⟨b, o, cap, vs, hv, _⟩ := h
  exact ⟨_, _, hv⟩
theorem congr {f' : Nat → List Nat} (h : Rr K W v k f) (e : ∀ i, i < k → f' i = f i) : Rr K W v k f' := by
  obtain ⟨b, o, cap, vs, hv, hc, hb, hi⟩ := h
  exact ⟨b, o, cap, vs, hv, hc, hb, fun i hk => by rw [e i hk]; exact hi i hk⟩
end Rr
/-- k rows of a new sketch are made: its box in block X. -/
structure Bu (W1 : World) (K : Nat → Prop) (X n seed k : Nat) (f : Nat → List Nat) (v : Value) (W : World) : Prop where
  old : Keep (fun b => b < X) W1 W
  head : W.heap[X]? = some (.cells #[v, .int .i64 (n : Int), .int .u64 (seed : Int)] 29 (0, 0))
  made : ∃ vs : Nat → Value, W.ownsRow (X + 1) 70 1 v k ((List.range k).map vs) ∧ ∀ i, i < k → Q e64 W (vs i) (f i) ∧ ∀ b, (vs i).ownBlock = some b → v.ownBlock ≠ some b ∧ b < W.heap.size ∧ b ≠ X ∧ (b < X → K b)
namespace Bu
variable {W1 W B : World} {K : Nat → Prop} {X n seed k : Nat} {f : Nat → List Nat} {v u : Value}
theorem start (hh : W1.heap[X]? = some (.cells #[.slice none 0 0, .int .i64 (n : Int), .int .u64 (seed : Int)] 29 (0, 0))) : Bu W1 K X n seed 0 f (.slice none 0 0) W1 :=
  ⟨.refl _ _, hh, fun _ => undef, World.ownsRow_nil _ _ _ _, fun i hi => absurd hi (by omega)⟩
theorem lt (h : Bu W1 K X n seed k f v W) : X < W.heap.size := heap_lt h.head
theorem keep {K' : Nat → Prop} (h : Bu W1 K X n seed k f v W) (hb : Keep K' W B) (hK : ∀ k, k < W.heap.size → K' k) : Bu W1 K X n seed k f v B := by
  obtain ⟨vs, ho, hi⟩ := h.made
  have hl : ∀ k, v.ownBlock = some k → k < W.heap.size := fun k hk => (World.ownsRow.lt ho k hk).2
  refine ⟨h.old.trans (hb.mono fun i hi _ => hK i hi), hb.heap h.head (hK _ h.lt), vs, hb.own ho fun k hk => hK k (hl k hk), fun i hik => ?_⟩
  obtain ⟨h1, h2⟩ := hi i hik
  exact ⟨h1.keep hb fun b hb' => hK b (h2 b hb').2.1, fun b hb' => ⟨(h2 b hb').1, Nat.lt_of_lt_of_le (h2 b hb').2.1 hb.size, (h2 b hb').2.2⟩⟩
theorem below (h : Bu W1 K X n seed k f v W) (hb : Below W.heap.size W B) : Bu W1 K X n seed k f v B := h.keep (K' := (· < W.heap.size)) (.of_below hb fun _ h => h) fun _ h => h
theorem drew (h : Bu W1 K X n seed k f v W) : Bu W1 K X n seed k f v W.drew := h.keep (K' := fun _ => True) (.drew _ _) fun _ _ => trivial
theorem c0 (h : Bu W1 K X n seed k f v W) : W.cell? ⟨X, 0, none⟩ = some v := by rw [cell_of h.head]; rfl
/-- one row more. -/
theorem push (h : Bu W1 K X n seed k f v W) (hq : Q e64 W u (f k)) (hub : ∀ b, u.ownBlock = some b → v.ownBlock ≠ some b ∧ b < W.heap.size ∧ b ≠ X ∧ (b < X → K b)) (hk : k ≤ 1000) (ty : TypeId) :
    ∃ v' w', (Builtin.append_ #[27, 27] ty #[v, .slice (some ⟨W.heap.size, 0, none⟩) 1 1]).run Tryd.prog (W.alloc (.cells #[u] 70)) = .ok v' w' ∧ ((∃ s c, v' = .slice (some ⟨s, 0, none⟩) (k + 1) c) ∧ w'.cell? ⟨X, 0, none⟩ = some v ∧ w'.frozen? ⟨X, 0, none⟩ = false ∧ Hid (Bu W1 K X n seed (k + 1) f v' (w'.setCell ⟨X, 0, none⟩ v'))) := by
  obtain ⟨vs, ho, hi⟩ := h.made
  obtain ⟨a, c, rfl, _⟩ := hq.slice
  have hX := h.lt
  obtain ⟨s, cap, w', hr, ho', hgr, hat⟩ := app_one info_l Tryd.underlying27 (by rfl) (by decide) (ho.alloc (.cells #[.slice a (f k).length c] 70)) W.heap.size (x := .slice a (f k).length c) rfl (heap_next rfl _) (by omega) (by simp; omega) ty
  have hsz : (W.alloc (.cells #[.slice a (f k).length c] 70)).heap.size = W.heap.size + 1 := by simp
  rw [hsz] at hat
  have hvX : v.ownBlock ≠ some X := fun e => by have := (World.ownsRow.lt ho X e).1; omega
  have hk1 : Keep (fun b => v.ownBlock ≠ some b) W w' := (Keep.alloc _ _ _).trans (Keep.grown hgr fun b e h => h e)
  have hh := hk1.heap h.head hvX
  have hsX : s ≠ X := by
    rcases hat with hat | rfl
    · exact fun e => hvX (e ▸ hat)
    · omega
  have hk2 : Keep (fun b => b ≠ X) w' (w'.setCell ⟨X, 0, none⟩ (.slice (some ⟨s, 0, none⟩) (k + 1) cap)) := Keep.setCell _ _ _ fun h => h rfl
  have hk3 : Keep (fun b => v.ownBlock ≠ some b ∧ b ≠ X) W (w'.setCell ⟨X, 0, none⟩ (.slice (some ⟨s, 0, none⟩) (k + 1) cap)) := (hk1.mono fun _ _ h => h.1).trans (hk2.mono fun _ _ h => h.2)
  refine ⟨_, w', hr, ⟨s, cap, rfl⟩, by rw [cell_of hh]; rfl, frozen_of hh 0, ⟨h.old.trans (hk3.mono fun b _ hb => ⟨fun e => by have := (World.ownsRow.lt ho b e).1; omega, by omega⟩), by rw [heap_set hh]; rfl, fun i => if i = k then .slice a (f k).length c else vs i, ?_, fun i hik => ?_⟩⟩
  · have e : (List.range (k + 1)).map (fun i => if i = k then Value.slice a (f k).length c else vs i) = (List.range k).map vs ++ [.slice a (f k).length c] := by
      rw [List.range_succ, List.map_append]
      congr 1
      · refine List.map_congr_left fun i hi => if_neg ?_
        have := List.mem_range.1 hi
        omega
      · simp
    rw [e]
    exact hk2.own ho' fun b hb => by simp [Value.ownBlock] at hb; subst hb; exact hsX
  · have new : ∀ b, (v.ownBlock ≠ some b ∧ b < W.heap.size ∧ b ≠ X ∧ (b < X → K b)) → (Value.slice (some ⟨s, 0, none⟩) (k + 1) cap).ownBlock ≠ some b ∧ b < (w'.setCell ⟨X, 0, none⟩ (.slice (some ⟨s, 0, none⟩) (k + 1) cap)).heap.size ∧ b ≠ X ∧ (b < X → K b) := fun b ⟨g1, g2, g3, g4⟩ => by
      refine ⟨fun e => ?_, Nat.lt_of_lt_of_le g2 hk3.size, g3, g4⟩
      simp [Value.ownBlock] at e
      subst e
      rcases hat with hat | rfl
      · exact g1 hat
      · omega
    dsimp only
    by_cases e : i = k
    · subst e
      rw [if_pos rfl]
      exact ⟨hq.keep hk3 fun b hb => ⟨(hub b hb).1, (hub b hb).2.2.1⟩, fun b hb => new b (hub b hb)⟩
    · rw [if_neg e]
      obtain ⟨h1, h2⟩ := hi i (by omega)
      exact ⟨h1.keep hk3 fun b hb => ⟨(h2 b hb).1, (h2 b hb).2.2.1⟩, fun b hb => new b (h2 b hb)⟩
theorem done (h : Bu W1 K X n seed (k + 1) f v W) (hK : ∀ b, X < b → K b) : Rr K W v (k + 1) f ∧ ∃ s c, v = .slice (some ⟨s, 0, none⟩) (k + 1) c := by
  obtain ⟨vs, ho, hi⟩ := h.made
  rcases ho.2 with ⟨_, h0⟩ | ⟨g, cap, cur, rfl, hb, hgg, hc, rest⟩
  · omega
  · refine ⟨⟨g, 0, cap, vs, rfl, hc, hK g (by omega), fun i hik => ?_⟩, _, _, rfl⟩
    obtain ⟨h1, h2⟩ := hi i hik
    refine ⟨?_, h1, fun b hb' => ?_⟩
    · have := ho.cells (g := g) rfl i (vs i) (by simp [hik])
      rwa [Addr.add_lit] at this
    · obtain ⟨_, _, g3, g4⟩ := h2 b hb'
      by_cases e : b < X
      · exact g4 e
      · exact hK b (by omega)
end Bu
end Go.Proofs.YthjbkabkoolfdaaDoor.sk
