/-
  Slices of calls as they lie; Fine of package prog and the document's Fine by their contracts, for every slice.
-/
import Derived.Test.YtfhcgildokdppaaBb
namespace Go.Proofs.Ytfhcgildokdppaa
open Go.RowKit Go.Shelf tp
/-- the five cells of a call at a place. -/
abbrev Cf (b o : Nat) (x : Opn) (V : World) : Prop := V.cell? ⟨b, o, none⟩ = some (.int .i64 x.k) ∧ V.cell? ⟨b, o + 1, none⟩ = some (.int .i64 x.key) ∧ V.cell? ⟨b, o + 2, none⟩ = some (.int .i64 x.val) ∧ V.cell? ⟨b, o + 3, none⟩ = some (.int .i64 x.cost) ∧ V.cell? ⟨b, o + 4, none⟩ = some (.int .i64 x.ttl)
theorem Cf.keep {b o : Nat} {x : Opn} {V B : World} {K : Nat → Prop} (h : Cf b o x V) (hk : Keep K V B) (hK : K b) : Cf b o x B := by
  have e : ∀ j y, V.cell? ⟨b, j, none⟩ = some y → B.cell? ⟨b, j, none⟩ = some y := fun j y hy => (hk.cell (p := ⟨b, j, none⟩) (World.block_lt_of_cell? V ⟨b, j, none⟩ hy) hK).trans hy
  exact ⟨e _ _ h.1, e _ _ h.2.1, e _ _ h.2.2.1, e _ _ h.2.2.2.1, e _ _ h.2.2.2.2⟩
/-- the slice at p reads as l; an empty one may lie anywhere. -/
def Ea (w : World) (p : Option Addr) (l : List Opn) : Prop := 0 < l.length → ∃ b o, p = some ⟨b, o, none⟩ ∧ ∀ i (h : i < l.length), Cf b (o + i * 5) l[i] w
theorem Ea.nil (w : World) (p : Option Addr) : Ea w p [] := fun h => absurd h (by simp)
theorem Ea.keep {w w' : World} {p : Option Addr} {l : List Opn} {K : Nat → Prop} (h : Ea w p l) (hk : Keep K w w') (hK : ∀ b o, p = some ⟨b, o, none⟩ → 0 < l.length → K b) : Ea w' p l := fun h0 => by
  obtain ⟨b, o, hp, hi⟩ := h h0
  exact ⟨b, o, hp, fun i h => (hi i h).keep hk (hK b o hp h0)⟩
theorem Ea.below {w w' : World} {p : Option Addr} {l : List Opn} (h : Ea w p l) (hb : Below w.heap.size w w') : Ea w' p l := h.keep (K := fun _ => True) (.of_below hb) fun _ _ _ _ => trivial
theorem Ea.lt {w : World} {p : Option Addr} {l : List Opn} (h : Ea w p l) {b o : Nat} (hp : p = some ⟨b, o, none⟩) (h0 : 0 < l.length) : b < w.heap.size := by
  obtain ⟨b', o', e, hi⟩ := h h0
  obtain ⟨rfl, rfl⟩ : b = b' ∧ o = o' := by rw [hp] at e; simpa using e
  exact World.block_lt_of_cell? w ⟨b, o + 0 * 5, none⟩ (hi 0 h0).1
/-- a call of the slice, as it reads now. -/
theorem nowE {w : World} {p : Option Addr} {l : List Opn} (hr : Ea w p l) (j : Nat) (hj : j < l.length) : ∃ (b o : Nat), p = some ⟨b, o, none⟩ ∧ Hid (∀ V, Below w.heap.size w V → Cf b (o + j * 5) l[j] V) := by
  obtain ⟨b, o, hp, hi⟩ := hr (by omega)
  exact ⟨b, o, hp, fun V hV => (hi j hj).keep (K := fun k => k < w.heap.size) ⟨hV.os, hV.tape, hV.output, hV.size, fun k hk _ => hV.block k hk⟩ (World.block_lt_of_cell? w ⟨b, o + j * 5, none⟩ (hi j hj).1)⟩
set_option maxRecDepth 100000 in
set_option maxHeartbeats 2000000 in
theorem fine12 (p : Option Addr) (l : List Opn) (cap : Nat) (w : World) (hp : Ea w p l) : Calls Try.prog 24 #[.slice p l.length cap] w fun e B => e = .returned (.bool (decide (fine l))) ∧ Hid (Below w.heap.size w B) := by
  by_cases hlen : l.length ≤ 24
  · have N : Hid (∀ j W, j < l.length → Hid (Below w.heap.size w W) → ∃ (b o : Nat) (x : Opn), p = some ⟨b, o, none⟩ ∧ Cf b (o + j * 5) x W ∧ l[j]? = some x ∧ Hid (Calls Try.prog 52 #[opv x] (W.alloc (.cells (ocs x) 53)) fun e B => e = .returned (.bool (decide (right x))) ∧ Hid (Below w.heap.size w B))) := fun j W hj h => by
      obtain ⟨b, o, hp', hc⟩ := nowE hp j hj
      refine ⟨b, o, l[j], hp', hc.out W h.out, List.getElem?_eq_getElem hj, (right7 l[j] _).mono fun e B ⟨he, hB⟩ => ⟨he, ?_⟩⟩
      have := h.out.size
      exact h.out.trans (((Below.refl _ _).alloc (by omega) _).trans (hB.out.mono (by simp; omega)))
    have S : Hid (Below w.heap.size w w) := Below.refl _ _
    obtain ⟨q, hq⟩ : ∃ q, decide (fine l) = q := ⟨_, rfl⟩
    rw [hq]
    have D1 : Hid (∀ j x, l[j]? = some x → decide (right x) = false → q = false) := fun j x hx hr => by
      rw [← hq]
      refine decide_eq_false fun h => ?_
      have := h.2 x (List.mem_of_getElem? hx)
      rw [decide_eq_true this] at hr
      cases hr
    have D2 : Hid ((∀ j x, l[j]? = some x → right x) → q = true) := fun h => by
      rw [← hq]
      refine decide_eq_true ⟨hlen, fun o ho => ?_⟩
      obtain ⟨j, hj⟩ := List.getElem?_of_mem ho
      exact h j o hj
    have HL : Hid (∀ j x, l[j]? = some x → j < l.length) := fun j x h => (List.getElem?_eq_some_iff.1 h).1
    clear hp hq
    obtain ⟨n, hn⟩ : ∃ n, l.length = n := ⟨_, rfl⟩
    rw [hn] at N hlen HL ⊢
    clear hn
    have z1 : ¬ (24 : Int) < (n : Int) := by omega
    go_enter Try.func24, Try.ntmps24
    go_wp2_with fail
    go_loopw [10] (fun i wr => ∃ j : Nat, j ≤ n ∧ i = .int .i64 j ∧ Hid (∀ j' x, j' < j → l[j']? = some x → right x) ∧ Hid (Below w.heap.size w wr)) (fun i _ => n - (intOf i).toNat)
    case atStart => exact ⟨0, by omega, rfl, fun j' x h => absurd h (Nat.not_lt_zero _), S⟩
    case round =>
      obtain ⟨j, hj, rfl, hR, hB⟩ := hrel
      clear S
      by_cases hlt : j < n
      · obtain ⟨b, o, x, rfl, ⟨c0, c1, c2, c3, c4⟩, hx, T⟩ := N.out j _ hlt hB
        have hjn : (j : Int) < (n : Int) := by omega
        have HX := Lib.hid hx
        clear N hx
        obtain ⟨k, a1, a2, a3, a4⟩ := x
        simp only at c0 c1 c2 c3 c4
        cases hr : decide (right (⟨k, a1, a2, a3, a4⟩ : Opn)) with
        | true =>
          rw [hr] at T
          have HR2 : Hid (∀ j' x, j' < j + 1 → l[j']? = some x → right x) := fun j' x hj' hx => by
            by_cases e : j' = j
            · subst e
              rw [HX.out] at hx
              cases hx
              simpa using hr
            · exact hR.out j' x (by omega) hx
          clear hr hR HX D1 D2
          go_wp2_with fail
          refine T.out.mono ?_
          rintro e w2 ⟨rfl, h2⟩
          go_wp2
          go_roundw
          case rel => exact ⟨j + 1, by omega, by simp, HR2, h2⟩
          case measure => simp [intOf]; omega
        | false =>
          rw [hr] at T
          have F := Lib.hid (D1.out _ _ HX.out hr)
          clear hr hR HX D1 D2
          go_wp2_with fail
          refine T.out.mono ?_
          rintro e w2 ⟨rfl, h2⟩
          go_wp2
          go_ret
          exact ⟨by rw [F.out]; rfl, h2⟩
      · obtain rfl : j = n := by omega
        have F := Lib.hid (D2.out fun j' x hx => hR.out j' x (HL.out j' x hx) hx)
        clear N D1 D2 hR HL
        go_wp2
        go_ret
        exact ⟨by rw [F.out]; rfl, hB⟩
  · have e : decide (fine l) = false := decide_eq_false fun h => hlen h.1
    rw [e]
    have S : Hid (Below w.heap.size w w) := Below.refl _ _
    generalize l.length = n at *
    have z1 : (24 : Int) < (n : Int) := by omega
    clear hp e
    go_enter Try.func24, Try.ntmps24
    go_wp2
    go_ret
    exact ⟨rfl, S⟩
set_option maxRecDepth 100000 in
set_option maxHeartbeats 2000000 in
theorem reffine13 (p : Option Addr) (l : List Opn) (cap : Nat) (w : World) (hp : Ea w p l) (hl40 : l.length ≤ 1000000) : Calls Try.prog 27 #[.slice p l.length cap] w fun e B => e = .returned (.bool (decide (fine l))) ∧ Hid (Below w.heap.size w B) := by
  have N : Hid (∀ j W, j < l.length → Hid (Below w.heap.size w W) → ∃ (b o : Nat) (x : Opn), p = some ⟨b, o, none⟩ ∧ Cf b (o + j * 5) x W ∧ l[j]? = some x ∧ Hid (Calls Try.prog 55 #[opv x] W fun e B => e = .returned (.bool (decide (right x))) ∧ Hid (Below w.heap.size w B))) := fun j W hj h => by
    obtain ⟨b, o, hp', hc⟩ := nowE hp j hj
    refine ⟨b, o, l[j], hp', hc.out W h.out, List.getElem?_eq_getElem hj, (refright8 l[j] _).mono fun e B ⟨he, hB⟩ => ⟨he, ?_⟩⟩
    exact h.out.trans (hB.out.mono h.out.size)
  have S : Hid (Below w.heap.size w w) := Below.refl _ _
  obtain ⟨q, hq⟩ : ∃ q, decide (fine l) = q := ⟨_, rfl⟩
  rw [hq]
  have D1 : Hid (∀ j x, l[j]? = some x → decide (right x) = false → q = false) := fun j x hx hr => by
    rw [← hq]
    refine decide_eq_false fun h => ?_
    have := h.2 x (List.mem_of_getElem? hx)
    rw [decide_eq_true this] at hr
    cases hr
  have D2 : Hid (∀ j, (∀ j' x, j' < j → l[j']? = some x → right x) → (j = l.length ∨ j = 25) → j ≤ l.length → (decide ((l.length : Int) ≤ 24)) = q) := fun j h hj hjl => by
    rw [← hq]
    by_cases h24 : l.length ≤ 24
    · rw [decide_eq_true (show (l.length : Int) ≤ 24 by omega)]
      refine (decide_eq_true ⟨h24, fun o ho => ?_⟩).symm
      obtain ⟨j', hj'⟩ := List.getElem?_of_mem ho
      exact h j' o (by have := (List.getElem?_eq_some_iff.1 hj').1; omega) hj'
    · rw [decide_eq_false (show ¬ (l.length : Int) ≤ 24 by omega)]
      exact (decide_eq_false fun h => h24 h.1).symm
  clear hp hq
  obtain ⟨n, hn⟩ : ∃ n, l.length = n := ⟨_, rfl⟩
  rw [hn] at N D2 hl40 ⊢
  clear hn
  go_enter Try.func27, Try.ntmps27
  go_wp2_with fail
  go_loopw [3] (fun i wr => ∃ j : Nat, j ≤ n ∧ j ≤ 25 ∧ i = .int .i64 j ∧ Hid (∀ j' x, j' < j → l[j']? = some x → right x) ∧ Hid (Below w.heap.size w wr)) (fun i _ => n - (intOf i).toNat)
  case atStart => exact ⟨0, by omega, by omega, rfl, fun j' x h => absurd h (Nat.not_lt_zero _), S⟩
  case round =>
    obtain ⟨j, hj, hj25, rfl, hR, hB⟩ := hrel
    clear S
    by_cases hlt : j < n
    · have y1 : decide ((j : Int) < (n : Int)) = true := by simp; omega
      by_cases h25 : j < 25
      · have y2 : decide ((j : Int) < 25) = true := by simp; omega
        obtain ⟨b, o, x, rfl, ⟨c0, c1, c2, c3, c4⟩, hx, T⟩ := N.out j _ hlt hB
        have hjn : (j : Int) < (n : Int) := by omega
        have HX := Lib.hid hx
        clear N hx
        obtain ⟨k, a1, a2, a3, a4⟩ := x
        simp only at c0 c1 c2 c3 c4
        cases hr : decide (right (⟨k, a1, a2, a3, a4⟩ : Opn)) with
        | true =>
          rw [hr] at T
          have HR2 : Hid (∀ j' x, j' < j + 1 → l[j']? = some x → right x) := fun j' x hj' hx => by
            by_cases e : j' = j
            · subst e
              rw [HX.out] at hx
              cases hx
              simpa using hr
            · exact hR.out j' x (by omega) hx
          clear hr hR HX D1 D2
          go_wp2_with fail
          refine T.out.mono ?_
          rintro e w2 ⟨rfl, h2⟩
          go_wp2
          go_roundw
          case rel => exact ⟨j + 1, by omega, by omega, by simp, HR2, h2⟩
          case measure => simp [intOf]; omega
        | false =>
          rw [hr] at T
          have F := Lib.hid (D1.out _ _ HX.out hr)
          clear hr hR HX D1 D2
          go_wp2_with fail
          refine T.out.mono ?_
          rintro e w2 ⟨rfl, h2⟩
          go_wp2
          go_ret
          exact ⟨by rw [F.out]; rfl, h2⟩
      · obtain rfl : j = 25 := by omega
        have F := Lib.hid (D2.out 25 hR.out (.inr rfl) (by omega))
        obtain ⟨z, hz⟩ : ∃ z, decide ((n : Int) ≤ 24) = z := ⟨_, rfl⟩
        rw [hz] at F
        clear N D1 D2 hR
        go_wp2
        go_ret
        exact ⟨by rw [F.out]; rfl, hB⟩
    · obtain rfl : j = n := by omega
      have F := Lib.hid (D2.out j hR.out (.inl rfl) (by omega))
      obtain ⟨z, hz⟩ : ∃ z, decide ((j : Int) ≤ 24) = z := ⟨_, rfl⟩
      rw [hz] at F
      clear N D1 D2 hR
      go_wp2
      go_ret
      exact ⟨by rw [F.out]; rfl, hB⟩
end Go.Proofs.Ytfhcgildokdppaa
