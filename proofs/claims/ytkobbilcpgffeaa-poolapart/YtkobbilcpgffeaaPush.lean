/-
  Of no function: one's own row of lists and one more; a buffer that comes to those that wait.
-/
import Derived.Test.YtkobbilcpgffeaaMath
import Derived.Deep.AppendLies
import Derived.OwnWalk
namespace Go.Proofs.Ytkobbilcpgffeaa
open Go.RowKit
theorem info_parts {P : Program} {e : TypeId} {z : Value} {size bytes : Nat} (h : (P.info? e).map (fun i => (i.zero, i.size, i.bytes)) = some (some z, size, bytes)) : ∃ i, P.info? e = some i ∧ i.zero = some z ∧ i.size = size ∧ i.bytes = bytes := by
  obtain ⟨i, hi, hz⟩ := Option.map_eq_some_iff.1 h
  simp only [Prod.mk.injEq] at hz
  exact ⟨i, hi, hz.1, hz.2.1, hz.2.2⟩
/-- a row of one's own, and what lies at another address. -/
theorem app_row {P : Program} {t e : TypeId} {z : Value} {bytes : Nat} (hinfo : (P.info? e).map (fun i => (i.zero, i.size, i.bytes)) = some (some z, 1, bytes)) (ht : P.underlying t = some (.slice e)) (hz : z.cells.size = 1) (hby : bytes ≤ 24) {W : World} {base : Nat} {v : Value} {n : Nat} {xs ys : List Value} (hown : W.ownsRow base e 1 v n xs)
    (X o c : Nat) (h1 : ∀ u ∈ ys, u.oneCell' = true) (hX : ∀ j u, ys[j]? = some u → W.cell? ⟨X, o + j, none⟩ = some u) (hy : 0 < ys.length) (hn : n + ys.length ≤ 1000000) (hb : base ≤ W.heap.size) (ty : TypeId) :
    ∃ s cap w', (Builtin.append_ #[t, t] ty #[v, .slice (some ⟨X, o, none⟩) ys.length c]).run P W = .ok (.slice (some ⟨s, 0, none⟩) (n + ys.length) cap) w' ∧ w'.ownsRow base e 1 (.slice (some ⟨s, 0, none⟩) (n + ys.length) cap) (n + ys.length) (xs ++ ys) ∧ W.grownBy w' v.ownBlock ∧ (v.ownBlock = some s ∨ s = W.heap.size) := by
  obtain ⟨i, hi, hz0, hz1, hz2⟩ := info_parts hinfo
  have hmax : maxLen = 9223372036854775807 := by decide
  have hbb : (n + ys.length) * bytes ≤ 1000000 * 24 := Nat.mul_le_mul hn hby
  obtain ⟨g, cap, w', hr, h2, h3, h4, _⟩ := run_append_lies (P := P) W t ty base e i z 1 bytes ht hi hz0 hz1 hz2 hz (by decide) v n xs hown ⟨X, o, none⟩ ys.length c ys (by simp) (fun j u hu => by
    rw [show (⟨X, o, none⟩ : Addr).add j = ⟨X, o + j, none⟩ by simp [Addr.add]]
    exact hX j u hu) h1 hy (by omega) (by omega) hb W.heap.size rfl
  exact ⟨g, cap, w', hr, h2, h3, h4⟩
theorem app_one {P : Program} {t e : TypeId} {z : Value} {bytes : Nat} (hinfo : (P.info? e).map (fun i => (i.zero, i.size, i.bytes)) = some (some z, 1, bytes)) (ht : P.underlying t = some (.slice e)) (hz : z.cells.size = 1) (hby : bytes ≤ 24) {W : World} {base : Nat} {v : Value} {n : Nat} {xs : List Value} (hown : W.ownsRow base e 1 v n xs)
    (X : Nat) {x : Value} (h1 : x.oneCell' = true) (hX : W.heap[X]? = some (.cells #[x] e (0, 0))) (hn : n + 1 ≤ 1000000) (hb : base ≤ W.heap.size) (ty : TypeId) :
    ∃ s cap w', (Builtin.append_ #[t, t] ty #[v, .slice (some ⟨X, 0, none⟩) 1 1]).run P W = .ok (.slice (some ⟨s, 0, none⟩) (n + 1) cap) w' ∧ w'.ownsRow base e 1 (.slice (some ⟨s, 0, none⟩) (n + 1) cap) (n + 1) (xs ++ [x]) ∧ W.grownBy w' v.ownBlock ∧ (v.ownBlock = some s ∨ s = W.heap.size) :=
  app_row hinfo ht hz hby hown X 0 1 (ys := [x]) (by simpa using h1) (fun j u hu => by
    rw [cell_of hX, Nat.zero_add]
    simpa using hu) (by simp) (by simpa using hn) hb ty
theorem app_step {P : Program} (w : World) {ops : Array Oper} {rest : List Oper} {o : Oper} {a : Act} {Q : Exit → Act → World → Prop} (hgd : o.guard = none) (s x : Operand) (t : TypeId)
    (ho : o.op = .call { callee := .builtin .append, args := #[s, x], argTypes := #[t, t] }) (v u : Value) (hs : a.eval s = v) (hx : a.eval x = u) {R : Value → World → Prop}
    (hrun : ∃ v' w', (Builtin.append_ #[t, t] o.type #[v, u]).run P w = .ok v' w' ∧ R v' w') (h : ∀ v' w', R v' w' → wpList P ops Q rest (a.put o.dst v') w') : wpList P ops Q (o :: rest) a w := by
  refine wpList_plain hgd fun _ hK => ?_
  obtain ⟨v', w', hr, hR⟩ := hrun
  unfold Oper.wp execOp
  simp only [ho, resolve, invoke, builtin, Sem.run_bind, Sem.run_pure, Result.andThen_ok, List.map_toArray, List.map_cons, List.map_nil, hs, hx, hr]
  exact hK _ _ (h v' w' hR)
namespace Pool
variable {tP tS tE : TypeId} {w : World} {r room spare made : Nat} {v : Value} {bs : List Nat}
/-- the buffer in block g is put behind those that wait. -/
theorem push {P : Program} {t : TypeId} (hinfo : (P.info? tS).map (fun i => (i.zero, i.size, i.bytes)) = some (some (.slice none 0 0), 1, 24)) (ht : P.underlying t = some (.slice tS)) (h : Pool tP tS tE w r room spare made v bs) {g : Nat} (hG : Buf tE w g room) (hg : ¬ foot r v bs g) (hs : bs.length < spare) (ty : TypeId) :
    ∃ v' w', (Builtin.append_ #[t, t] ty #[v, .slice (some ⟨w.heap.size, 0, none⟩) 1 1]).run P (w.alloc (.cells #[.slice (some ⟨g, 0, none⟩) room room] tS)) = .ok v' w' ∧
      ((∃ s cap, v' = .slice (some ⟨s, 0, none⟩) (bs.length + 1) cap) ∧ w'.cell? ⟨r, 0, none⟩ = some v ∧ w'.frozen? ⟨r, 0, none⟩ = false ∧
        Hid (Pool tP tS tE (w'.setCell ⟨r, 0, none⟩ v') r room spare made v' (bs ++ [g]) ∧ (∀ k, v'.ownBlock = some k → v.ownBlock = some k ∨ w.heap.size ≤ k) ∧ Keep (fun k => ¬ foot r v bs k ∧ k ≠ g) w (w'.setCell ⟨r, 0, none⟩ v'))) := by
  have hx := h.most
  obtain ⟨s, cap, w', hr, ho, hgr, hat⟩ := app_one hinfo ht (by rfl) (by decide) (h.row.alloc (.cells #[.slice (some ⟨g, 0, none⟩) room room] tS)) w.heap.size (x := .slice (some ⟨g, 0, none⟩) room room) rfl (heap_next rfl _) (by omega) (Nat.zero_le _) ty
  have hk : Keep (fun k => v.ownBlock ≠ some k) w w' := (Keep.alloc _ _ _).trans (Keep.grown hgr fun k e h => h e)
  have hvr : v.ownBlock ≠ some r := fun e => (h.hv r e).1 rfl
  have hrw := heap_lt h.head
  have hgw := hG.lt
  have hh := hk.heap h.head hvr
  have hsz : (w.alloc (.cells #[.slice (some ⟨g, 0, none⟩) room room] tS)).heap.size = w.heap.size + 1 := by simp
  rw [hsz] at hat
  have hsn : s ≠ r ∧ s ∉ bs ∧ s ≠ g := by
    rcases hat with hat | rfl
    · exact ⟨(h.hv s hat).1, (h.hv s hat).2, fun e => hg (.inr (.inl (e ▸ hat)))⟩
    · exact ⟨by omega, fun hb => by have := (h.bufs _ hb).lt; omega, by omega⟩
  have hk2 : Keep (fun k => k ≠ r) w' (w'.setCell ⟨r, 0, none⟩ (.slice (some ⟨s, 0, none⟩) (bs.length + 1) cap)) := Keep.setCell _ _ _ fun h => h rfl
  refine ⟨_, w', hr, ⟨s, cap, rfl⟩, by rw [cell_of hh]; rfl, frozen_of hh 0, ⟨?_, ?_, ?_, ?_, ?_, ?_, h.low, h.lid, h.most, ?_⟩, ?_, ?_⟩
  · rw [heap_set hh]; rfl
  · rw [List.map_append, List.length_append]
    exact hk2.own ho fun k hk => by simp [Value.ownBlock] at hk; subst hk; exact hsn.1
  · intro b hb
    refine Buf.set ?_ r 0 _
    rcases List.mem_append.1 hb with hb | hb
    · exact (h.bufs b hb).keep hk fun e => (h.hv b e).2 hb
    · obtain rfl : b = g := by simpa using hb
      exact hG.keep hk fun e => hg (.inr (.inl e))
  · rw [List.nodup_append]
    refine ⟨h.once, by simp, fun a ha b hb e => hg (.inr (.inr ?_))⟩
    rw [List.mem_singleton] at hb
    exact hb ▸ e ▸ ha
  · simp only [List.mem_append, List.mem_singleton, not_or]
    exact ⟨h.out, fun e => hg (.inl e.symm)⟩
  · intro k hk
    simp [Value.ownBlock] at hk; subst hk
    simp only [List.mem_append, List.mem_singleton, not_or]
    exact ⟨hsn.1, hsn.2⟩
  · simp; omega
  · intro k hk
    simp [Value.ownBlock] at hk; subst hk
    rcases hat with hat | rfl
    · exact .inl hat
    · exact .inr (by omega)
  · exact (hk.mono fun k _ hk e => hk.1 (.inr (.inl e))).trans (Keep.setCell _ _ _ fun hk => hk.1 (.inl rfl))
end Pool
end Go.Proofs.Ytkobbilcpgffeaa
