/-
  Of no function: worlds that are alike but for some blocks ('Keep'), a buffer in memory ('Buf'), and a pool as it lies in memory ('Pool').
-/
import Derived.Below
import Derived.Deep.Draws
import Derived.Deep.OwnRows
import Derived.Lib.SliceRun
import Derived.Lib.Hide
namespace Go.Proofs.Ytkobbilcpgffeaa
open Go.RowKit
/-- of what lay in A the blocks of K lie in B as they lay; nothing has gone. -/
structure Keep (K : Nat → Prop) (A B : World) : Prop where
  os : B.os = A.os
  tape : B.tape = A.tape
  output : B.output = A.output
  size : A.heap.size ≤ B.heap.size
  block : ∀ k, k < A.heap.size → K k → B.heap[k]? = A.heap[k]?
namespace Keep
variable {K K' : Nat → Prop} {A B C : World}
theorem refl (K : Nat → Prop) (A : World) : Keep K A A := ⟨rfl, rfl, rfl, Nat.le_refl _, fun _ _ _ => rfl⟩
theorem trans (h : Keep K A B) (k : Keep K B C) : Keep K A C :=
  ⟨k.os.trans h.os, k.tape.trans h.tape, k.output.trans h.output, Nat.le_trans h.size k.size, fun i hi hK => (k.block i (Nat.lt_of_lt_of_le hi h.size) hK).trans (h.block i hi hK)⟩
theorem mono (h : Keep K A B) (hk : ∀ i, i < A.heap.size → K' i → K i) : Keep K' A B := ⟨h.os, h.tape, h.output, h.size, fun i hi hK => h.block i hi (hk i hi hK)⟩
theorem drewN (K : Nat → Prop) (A : World) (n : Nat) : Keep K A (A.drewN n) := ⟨rfl, rfl, rfl, Nat.le_refl _, fun _ _ _ => rfl⟩
theorem drew (K : Nat → Prop) (A : World) : Keep K A A.drew := ⟨rfl, rfl, rfl, Nat.le_refl _, fun _ _ _ => rfl⟩
theorem alloc (K : Nat → Prop) (A : World) (o : Obj) : Keep K A (A.alloc o) := ⟨rfl, rfl, rfl, by simp, fun k hk _ => Below.heap_alloc _ _ _ hk⟩
theorem setCell (A : World) (p : Addr) (v : Value) (h : ¬ K p.block) : Keep K A (A.setCell p v) := ⟨rfl, rfl, rfl, by simp [World.setCell], fun k _ hK => Below.heap_setCell _ _ _ _ (fun e => h (e ▸ hK))⟩
theorem grown {row : Option Nat} (hg : A.grownBy B row) (h : ∀ k, row = some k → ¬ K k) : Keep K A B := ⟨hg.os, hg.tape, hg.output, hg.size, fun k hk hK => hg.block k hk (fun e => h k e.symm hK)⟩
theorem of_below {N : Nat} (h : Below N A B) (hK : ∀ k, K k → k < N) : Keep K A B := ⟨h.os, h.tape, h.output, h.size, fun k _ hk => h.block k (hK k hk)⟩
theorem below {N : Nat} (h : Keep K A B) (hK : ∀ k, k < N → K k) (hN : N ≤ A.heap.size) : Below N A B := ⟨h.os, h.tape, h.output, h.size, fun k hk => h.block k (Nat.lt_of_lt_of_le hk hN) (hK k hk)⟩
theorem heap (h : Keep K A B) {k : Nat} {o : Obj} (hk : A.heap[k]? = some o) (hK : K k) : B.heap[k]? = some o := (h.block k (Array.getElem?_eq_some_iff.1 hk).1 hK).trans hk
theorem cell (h : Keep K A B) {p : Addr} (hp : p.block < A.heap.size) (hK : K p.block) : B.cell? p = A.cell? p := World.cell?_of_block (w := A) (h.block p.block hp hK)
theorem own (h : Keep K A B) {base : Nat} {e : TypeId} {size : Nat} {v : Value} {n : Nat} {xs : List Value} (ho : A.ownsRow base e size v n xs) (hK : ∀ k, v.ownBlock = some k → K k) : B.ownsRow base e size v n xs := by
  refine ⟨ho.1, ?_⟩
  rcases ho.2 with hn | ⟨g, cap, cur, rfl, hb, hgg, rest⟩
  · exact .inl hn
  · exact .inr ⟨g, cap, cur, rfl, hb, h.heap hgg (hK g rfl), rest⟩
theorem setCells (b : Nat) (h : ¬ K b) : ∀ (vs : List Value) (o : Nat) (A : World), Keep K A (A.setCells b o vs)
  | [], _, A => .refl _ A
  | v :: r, o, A => (Keep.setCell A ⟨b, o, none⟩ v h).trans (setCells b h r (o + 1) (A.setCell ⟨b, o, none⟩ v))
end Keep
theorem heap_lt {w : World} {k : Nat} {o : Obj} (h : w.heap[k]? = some o) : k < w.heap.size := (Array.getElem?_eq_some_iff.1 h).1
theorem cell_of {w : World} {b : Nat} {arr : Array Value} {t : TypeId} (h : w.heap[b]? = some (.cells arr t (0, 0))) (i : Nat) : w.cell? ⟨b, i, none⟩ = arr[i]? := by simp [World.cell?, h]
theorem frozen_of {w : World} {b : Nat} {arr : Array Value} {t : TypeId} (h : w.heap[b]? = some (.cells arr t (0, 0))) (i : Nat) : w.frozen? ⟨b, i, none⟩ = false := by simp [World.frozen?, h]
theorem heap_set {w : World} {b : Nat} {arr : Array Value} {t : TypeId} (h : w.heap[b]? = some (.cells arr t (0, 0))) (i : Nat) (v : Value) : (w.setCell ⟨b, i, none⟩ v).heap[b]? = some (.cells (arr.setIfInBounds i v) t (0, 0)) := by
  obtain ⟨hlt, hk⟩ := Array.getElem?_eq_some_iff.1 h
  show (w.heap.modify b _)[b]? = _
  rw [Array.getElem?_eq_getElem (by rw [Array.size_modify]; exact hlt), Array.getElem_modify_self, hk]
  rfl
theorem heap_set_other {w : World} {b b' : Nat} {o : Obj} (h : w.heap[b]? = some o) (hne : b ≠ b') (i : Nat) (v : Value) : (w.setCell ⟨b', i, none⟩ v).heap[b]? = some o := (Below.heap_setCell w ⟨b', i, none⟩ v b hne).trans h
theorem heap_old {w : World} {o o' : Obj} {k : Nat} (h : w.heap[k]? = some o) : (w.alloc o').heap[k]? = some o := (Below.heap_alloc _ _ _ (heap_lt h)).trans h
theorem heap_next {w : World} {k : Nat} (h : k = w.heap.size) (o : Obj) : (w.alloc o).heap[k]? = some o := by rw [h]; exact heap_alloc_new _ _
theorem cell_past {w : World} {o : Obj} {p : Addr} {v : Value} (h : w.cell? p = some v) : (w.alloc o).cell? p = some v := by
  refine (World.cell?_of_block (w := w) (Below.heap_alloc _ _ _ ?_)).trans h
  by_cases hp : p.block < w.heap.size
  · exact hp
  · simp [World.cell?, Array.getElem?_eq_none (Nat.le_of_not_lt hp)] at h
theorem size_sets (b : Nat) : ∀ (vs : List Value) (o : Nat) (w : World), (w.setCells b o vs).heap.size = w.heap.size
  | [], _, _ => rfl
  | v :: r, o, w => (size_sets b r (o + 1) _).trans (by simp [World.setCell])
/-- a buffer in block g with room for n things of the type tE. -/
def Buf (tE : TypeId) (w : World) (g n : Nat) : Prop := ∃ arr : Array Value, w.heap[g]? = some (.cells arr tE (0, 0)) ∧ arr.size = n
namespace Buf
variable {tE : TypeId} {w w' : World} {g n : Nat}
theorem lt (h : Buf tE w g n) : g < w.heap.size := by obtain ⟨arr, h, _⟩ := h; exact heap_lt h
theorem keep {K : Nat → Prop} (h : Buf tE w g n) (hk : Keep K w w') (hK : K g) : Buf tE w' g n := by
  obtain ⟨arr, h1, h2⟩ := h
  exact ⟨arr, hk.heap h1 hK, h2⟩
theorem set (h : Buf tE w g n) (b i : Nat) (v : Value) : Buf tE (w.setCell ⟨b, i, none⟩ v) g n := by
  obtain ⟨arr, h1, h2⟩ := h
  by_cases e : g = b
  · subst e
    exact ⟨_, heap_set h1 i v, by simpa using h2⟩
  · exact ⟨arr, heap_set_other h1 e i v, h2⟩
theorem sets (b : Nat) : ∀ (vs : List Value) (o : Nat) (w : World), Buf tE w g n → Buf tE (w.setCells b o vs) g n
  | [], _, _, h => h
  | v :: r, o, _, h => sets b r (o + 1) _ (h.set b o v)
theorem there (h : Buf tE w g n) : ∀ j, j < n → (w.cell? ⟨g, 0 + j, none⟩).isSome = true := fun j hj => by
  obtain ⟨arr, h1, h2⟩ := h
  rw [cell_of h1, Array.getElem?_eq_getElem (by omega)]
  rfl
theorem warm (h : Buf tE w g n) (i : Nat) : w.frozen? ⟨g, i, none⟩ = false := by
  obtain ⟨arr, h1, _⟩ := h
  exact frozen_of h1 i
end Buf
/-- a list of n things in the buffer of block g, which has room for so many. -/
abbrev bv (room n g : Nat) : Value := .slice (some ⟨g, 0, none⟩) n room
/-- a pool lies in block r: v holds the buffers bs, which wait; all apart. -/
structure Pool (tP tS tE : TypeId) (w : World) (r room spare made : Nat) (v : Value) (bs : List Nat) : Prop where
  head : w.heap[r]? = some (.cells #[v, .int .i64 (room : Int), .int .i64 (spare : Int), .int .i64 (made : Int)] tP (0, 0))
  row : w.ownsRow 0 tS 1 v bs.length (bs.map (bv room room))
  bufs : ∀ g ∈ bs, Buf tE w g room
  once : bs.Nodup
  out : r ∉ bs
  hv : ∀ k, v.ownBlock = some k → k ≠ r ∧ k ∉ bs
  low : 1 ≤ room
  lid : room ≤ 1024
  most : spare ≤ 1024
  fits : bs.length ≤ spare
/-- the blocks of a pool. -/
def foot (r : Nat) (v : Value) (bs : List Nat) (k : Nat) : Prop := k = r ∨ v.ownBlock = some k ∨ k ∈ bs
namespace Pool
variable {tP tS tE : TypeId} {w w' : World} {r room spare made : Nat} {v : Value} {bs : List Nat}
theorem keep {K : Nat → Prop} (h : Pool tP tS tE w r room spare made v bs) (hk : Keep K w w') (hK : ∀ k, foot r v bs k → K k) : Pool tP tS tE w' r room spare made v bs :=
  ⟨hk.heap h.head (hK r (.inl rfl)), hk.own h.row fun k hv => hK k (.inr (.inl hv)), fun g hg => (h.bufs g hg).keep hk (hK g (.inr (.inr hg))), h.once, h.out, h.hv, h.low, h.lid, h.most, h.fits⟩
theorem lt (h : Pool tP tS tE w r room spare made v bs) {k : Nat} (hk : foot r v bs k) : k < w.heap.size := by
  rcases hk with rfl | hk | hk
  · exact heap_lt h.head
  · exact (World.ownsRow.lt h.row k hk).2
  · exact (h.bufs k hk).lt
theorem drewN (h : Pool tP tS tE w r room spare made v bs) (m : Nat) : Pool tP tS tE (w.drewN m) r room spare made v bs := h.keep (K := fun _ => True) (.drewN _ _ _) fun _ _ => trivial
theorem c0 (h : Pool tP tS tE w r room spare made v bs) : w.cell? ⟨r, 0, none⟩ = some v := by rw [cell_of h.head]; rfl
theorem c1 (h : Pool tP tS tE w r room spare made v bs) : w.cell? ⟨r, 1, none⟩ = some (.int .i64 (room : Int)) := by rw [cell_of h.head]; rfl
theorem c2 (h : Pool tP tS tE w r room spare made v bs) : w.cell? ⟨r, 2, none⟩ = some (.int .i64 (spare : Int)) := by rw [cell_of h.head]; rfl
theorem c3 (h : Pool tP tS tE w r room spare made v bs) : w.cell? ⟨r, 3, none⟩ = some (.int .i64 (made : Int)) := by rw [cell_of h.head]; rfl
theorem fr (h : Pool tP tS tE w r room spare made v bs) (i : Nat) : w.frozen? ⟨r, i, none⟩ = false := frozen_of h.head i
/-- what waits: nil, or a row in a block of its own. -/
theorem slice (h : Pool tP tS tE w r room spare made v bs) : ∃ a cap, v = .slice a bs.length cap ∧ bs.length ≤ cap := by
  rcases h.row.2 with ⟨rfl, h0⟩ | ⟨g, cap, cur, rfl, _, _, hc, _⟩
  · exact ⟨none, 0, by rw [h0], by omega⟩
  · exact ⟨_, cap, rfl, hc⟩
/-- the row's block, where something waits. -/
theorem some_ (h : Pool tP tS tE w r room spare made v bs) (hb : 0 < bs.length) : ∃ s cap, v = .slice (some ⟨s, 0, none⟩) bs.length cap ∧ bs.length ≤ cap ∧ ∀ i (hi : i < bs.length), w.cell? ⟨s, i, none⟩ = some (bv room room bs[i]) ∧ w.frozen? ⟨s, i, none⟩ = false := by
  have hr := h.row
  rcases hr.2 with ⟨rfl, h0⟩ | ⟨g, cap, cur, rfl, _, hg, hc, _⟩
  · omega
  · refine ⟨g, cap, rfl, hc, fun i hi => ⟨?_, frozen_of hg i⟩⟩
    have := hr.cells (g := g) rfl i (bv room room bs[i]) (by simp [hi])
    rwa [Addr.add_lit, Nat.zero_add] at this
/-- a new pool. -/
theorem fresh (w : World) (room spare : Nat) (h1 : 1 ≤ room) (h2 : room ≤ 1024) (h3 : spare ≤ 1024) : Pool tP tS tE (w.alloc (.cells #[.slice none 0 0, .int .i64 (room : Int), .int .i64 (spare : Int), .int .i64 0] tP)) w.heap.size room spare 0 (.slice none 0 0) [] :=
  ⟨heap_alloc_new _ _, World.ownsRow_nil _ _ _ _, fun _ h => by simp at h, List.nodup_nil, by simp, fun k hk => by simp [Value.ownBlock] at hk, h1, h2, h3, Nat.zero_le _⟩
/-- one was made. -/
theorem made_ (h : Pool tP tS tE w r room spare made v []) (c : Int) (hc : c = ((made + 1 : Nat) : Int)) (o : Obj) : Pool tP tS tE ((w.setCell ⟨r, 3, none⟩ (.int .i64 c)).alloc o) r room spare (made + 1) v [] := by
  subst hc
  have hk : Keep (fun k => k ≠ r) w ((w.setCell ⟨r, 3, none⟩ (.int .i64 ((made + 1 : Nat) : Int))).alloc o) := (Keep.setCell _ _ _ (fun h => h rfl)).trans (Keep.alloc _ _ _)
  exact ⟨heap_old (by rw [heap_set h.head]; rfl), hk.own h.row fun k hv => (h.hv k hv).1, fun _ h => by simp at h, h.once, h.out, h.hv, h.low, h.lid, h.most, h.fits⟩
end Pool
theorem own_less {w : World} {base s n m cap : Nat} {e : TypeId} {xs ys : List Value} (h : w.ownsRow base e 1 (.slice (some ⟨s, 0, none⟩) n cap) n (xs ++ ys)) (hm : xs.length = m) (hn : n = m + ys.length) (x : Value) (hx : ys.length = 1) : (w.setCell ⟨s, m, none⟩ x).ownsRow base e 1 (.slice (some ⟨s, 0, none⟩) m cap) m xs := by
  refine ⟨by omega, ?_⟩
  rcases h.2 with ⟨h, _⟩ | ⟨g, c, cur, h, hb, hg, hc, hl, hs, ht⟩
  · simp at h
  · simp only [Value.slice.injEq, Option.some.injEq, Addr.mk.injEq, and_true, true_and] at h
    obtain ⟨rfl, rfl⟩ := h
    refine .inr ⟨s, cap, _, rfl, hb, heap_set hg m x, by omega, hl, by simpa using hs, ?_⟩
    rw [Nat.mul_one] at ht ⊢
    rw [Array.toList_setIfInBounds, List.take_set_of_le (Nat.le_refl m)]
    have : (cur.toList.take n).take m = xs := by rw [ht, ← hm, List.take_left']; rfl
    rwa [List.take_take, Nat.min_eq_left (by omega)] at this
namespace Pool
variable {tP tS tE : TypeId} {w w' : World} {r room spare made : Nat} {v : Value} {bs : List Nat}
/-- the last one that waited is taken. -/
theorem pop {s cap g : Nat} (h : Pool tP tS tE w r room spare made (.slice (some ⟨s, 0, none⟩) (bs.length + 1) cap) (bs ++ [g])) (x : Value) (vs : List Value) (W : World) (hW : W = ((w.setCell ⟨s, bs.length, none⟩ x).setCell ⟨r, 0, none⟩ (.slice (some ⟨s, 0, none⟩) bs.length cap)).setCells g 0 vs) :
    Pool tP tS tE W r room spare made (.slice (some ⟨s, 0, none⟩) bs.length cap) bs ∧ Buf tE W g room ∧ ¬ foot r (.slice (some ⟨s, 0, none⟩) bs.length cap) bs g ∧ Keep (fun k => ¬ foot r (.slice (some ⟨s, 0, none⟩) (bs.length + 1) cap) (bs ++ [g]) k) w W := by
  subst hW
  obtain ⟨hs1, hs2⟩ := h.hv s rfl
  have hro := h.out
  have hon := h.once
  simp only [List.mem_append, List.mem_singleton, not_or] at hs2 hro
  rw [List.nodup_append] at hon
  have hgb : g ∉ bs := fun hg => hon.2.2 g hg g (by simp) rfl
  have kg : Keep (fun k => k ≠ g) ((w.setCell ⟨s, bs.length, none⟩ x).setCell ⟨r, 0, none⟩ (.slice (some ⟨s, 0, none⟩) bs.length cap)) (((w.setCell ⟨s, bs.length, none⟩ x).setCell ⟨r, 0, none⟩ (.slice (some ⟨s, 0, none⟩) bs.length cap)).setCells g 0 vs) := Keep.setCells g (fun h => h rfl) _ _ _
  have hrow := h.row
  rw [List.map_append, List.length_append] at hrow
  have ho := own_less hrow (m := bs.length) (by simp) (by simp) x (by simp)
  refine ⟨⟨?_, ?_, ?_, hon.1, hro.1, fun k hk => ?_, h.low, h.lid, h.most, ?_⟩, Buf.sets g vs 0 _ (((h.bufs g (by simp)).set _ _ _).set _ _ _), ?_, ?_⟩
  · refine kg.heap ?_ hro.2
    rw [heap_set (heap_set_other h.head (fun e => hs1 e.symm) _ _)]
    rfl
  · exact kg.own ((Keep.setCell (K := fun k => k ≠ r) _ _ _ (fun h => h rfl)).own ho fun k hk => by simp [Value.ownBlock] at hk; subst hk; exact hs1) fun k hk => by simp [Value.ownBlock] at hk; subst hk; exact hs2.2
  · exact fun b hb => Buf.sets g vs 0 _ (((h.bufs b (by simp [hb])).set _ _ _).set _ _ _)
  · simp [Value.ownBlock] at hk; subst hk
    exact ⟨hs1, hs2.1⟩
  · have := h.fits
    simp at this; omega
  · rintro (e | e | e)
    · exact hro.2 e.symm
    · simp [Value.ownBlock] at e; exact hs2.2 e
    · exact hgb e
  · exact ((Keep.setCell _ _ _ fun hk => hk (.inr (.inl rfl))).trans (Keep.setCell _ _ _ fun hk => hk (.inl rfl))).trans (Keep.setCells g (fun hk => hk (.inr (.inr (by simp)))) _ _ _)
end Pool
end Go.Proofs.Ytkobbilcpgffeaa
