/-
  slices.Equal of calls and of ints, the document's numbers, slices.EqualFunc of programs, by their contracts, for every two slices (at most a million elements).
-/
import Derived.Test.YtfhcgildokdppaaRi
import Derived.Test.YtfhcgildokdppaaRf
namespace Go.Proofs.Ytfhcgildokdppaa
open Go.RowKit Go.Shelf tp
set_option maxRecDepth 100000 in
set_option maxHeartbeats 2000000 in
theorem equal30 (p r : Option Addr) (l m : List Opn) (c c' : Nat) (w : World) (hp : Ea w p l) (hr : Ea w r m) (hl : l.length ≤ 1000000) : Calls Try.prog 30 #[.slice p l.length c, .slice r m.length c'] w fun e B => e = .returned (.bool (decide (l = m))) ∧ Hid (Below w.heap.size w B) := by
  by_cases hlen : l.length = m.length
  · have N : Hid (∀ j W, j < l.length → Hid (Below w.heap.size w W) → ∃ (b o b' o' : Nat) (x y : Opn), p = some ⟨b, o, none⟩ ∧ r = some ⟨b', o', none⟩ ∧ (∀ n, Cf b (o + j * 5) x (W.drewN n)) ∧ (∀ n, Cf b' (o' + j * 5) y (W.drewN n)) ∧ Hid (l[j]? = some x ∧ m[j]? = some y)) := fun j W hj h => by
      obtain ⟨b, o, hp', hc⟩ := nowE hp j hj
      obtain ⟨b', o', hr', hc'⟩ := nowE hr j (by omega)
      have hb : ∀ n, Below w.heap.size w (W.drewN n) := fun n => h.out.trans ((below_drewN W n).mono h.out.size)
      exact ⟨b, o, b', o', l[j], m[j]'(by omega), hp', hr', fun n => hc.out _ (hb n), fun n => hc'.out _ (hb n), List.getElem?_eq_getElem hj, List.getElem?_eq_getElem (by omega)⟩
    have S : Hid (Below w.heap.size w w) := Below.refl _ _
    have DR : Hid (∀ W n, Hid (Below w.heap.size w W) → Hid (Below w.heap.size w (W.drewN n))) := fun W n h => h.out.trans ((below_drewN W n).mono h.out.size)
    obtain ⟨q, hq⟩ : ∃ q, decide (l = m) = q := ⟨_, rfl⟩
    rw [hq]
    have D1 : Hid (∀ (j : Nat) (x y : Opn), (l[j]? = some x ∧ m[j]? = some y) → decide (x = y) = false → q = false) := fun j x y hx hr => by
      rw [← hq]
      refine decide_eq_false fun h => ?_
      subst h
      rw [hx.1] at hx
      obtain rfl : x = y := by simpa using hx.2
      simp at hr
    have D2 : Hid ((∀ j : Nat, j < l.length → l[j]? = m[j]?) → q = true) := fun h => by
      rw [← hq]
      refine decide_eq_true (List.ext_getElem? fun j => ?_)
      by_cases hj : j < l.length
      · exact h j hj
      · rw [List.getElem?_eq_none (by omega), List.getElem?_eq_none (by omega)]
    clear hp hr hq
    obtain ⟨n, hn⟩ : ∃ n, l.length = n := ⟨_, rfl⟩
    rw [← hlen]
    rw [hn] at N D2 hl ⊢
    clear hn hlen
    go_enter Try.func30, Try.ntmps30
    go_wp2_with fail
    go_loopw [13] (fun i wr => ∃ j : Nat, j ≤ n ∧ i = .int .i64 j ∧ Hid (∀ j' : Nat, j' < j → l[j']? = m[j']?) ∧ Hid (Below w.heap.size w wr)) (fun i _ => n - (intOf i).toNat)
    case atStart => exact ⟨0, by omega, rfl, fun j' h => absurd h (Nat.not_lt_zero _), S⟩
    case round =>
      obtain ⟨j, hj, rfl, hR, hB⟩ := hrel
      clear S
      by_cases hlt : j < n
      · obtain ⟨b, o, b', o', x, y, rfl, rfl, hc, hc', hxy⟩ := N.out j _ hlt hB
        have K0 : Hid (Cf b (o + j * 5) x wr.drew ∧ Cf b' (o' + j * 5) y wr.drew) := ⟨hc 1, hc' 1⟩
        have hjn : (j : Int) < (n : Int) := by omega
        have hj0 : (0 : Int) ≤ (j : Int) := by omega
        have hne := ne5 x y
        have hDR := Lib.hid (fun n => (DR.out wr n hB).out)
        clear N DR hc hc'
        cases hr : decide (x = y) with
        | true =>
          have HR2 : Hid (∀ j' : Nat, j' < j + 1 → l[j']? = m[j']?) := fun j' hj' => by
            by_cases e : j' = j
            · subst e
              rw [hxy.out.1, hxy.out.2]
              rw [show x = y by simpa using hr]
            · exact hR.out j' (by omega)
          rw [hr] at hne
          clear hr hR hxy D1 D2 hB
          obtain ⟨x0, x1, x2, x3, x4⟩ := x
          obtain ⟨y0, y1, y2, y3, y4⟩ := y
          go_wp2_with fail
          go_region_held3 (fun V => Cf b (o + j * 5) ⟨x0, x1, x2, x3, x4⟩ V ∧ Cf b' (o' + j * 5) ⟨y0, y1, y2, y3, y4⟩ V) (first | exact K0.out | assumption) (fail)
          go_wp2
          go_roundw
          case rel => exact ⟨j + 1, by omega, by simp, HR2, hDR.out _⟩
          case measure => simp [intOf]; omega
        | false =>
          have F := Lib.hid (D1.out _ _ _ hxy.out hr)
          rw [hr] at hne
          clear hr hR hxy D1 D2 hB
          obtain ⟨x0, x1, x2, x3, x4⟩ := x
          obtain ⟨y0, y1, y2, y3, y4⟩ := y
          go_wp2_with fail
          go_region_held3 (fun V => Cf b (o + j * 5) ⟨x0, x1, x2, x3, x4⟩ V ∧ Cf b' (o' + j * 5) ⟨y0, y1, y2, y3, y4⟩ V) (first | exact K0.out | assumption) (fail)
          go_wp2
          go_ret
          exact ⟨by rw [F.out]; rfl, hDR.out _⟩
      · obtain rfl : j = n := by omega
        have F := Lib.hid (D2.out hR.out)
        clear N D1 D2 hR DR
        go_wp2
        go_ret
        exact ⟨by rw [F.out]; rfl, hB⟩
  · have e : decide (l = m) = false := decide_eq_false fun h => hlen (by rw [h])
    rw [e]
    have S : Hid (Below w.heap.size w w) := Below.refl _ _
    generalize l.length = n at *
    generalize m.length = n' at *
    have z1 : ¬ (n : Int) = (n' : Int) := by omega
    have z2 : ((n : Int) == (n' : Int)) = false := by simpa using z1
    have z3 : ((n : Int) != (n' : Int)) = true := by simpa using z1
    clear hp hr e
    go_enter Try.func30, Try.ntmps30
    go_wp2
    go_ret
    exact ⟨rfl, S⟩
set_option maxRecDepth 100000 in
set_option maxHeartbeats 2000000 in
theorem equal31 (p r : Option Addr) (l m : List Int) (c c' : Nat) (w : World) (hp : La eI w p l) (hr : La eI w r m) (hl : l.length ≤ 1000000) : Calls Try.prog 31 #[.slice p l.length c, .slice r m.length c'] w fun e B => e = .returned (.bool (decide (l = m))) ∧ Hid (Below w.heap.size w B) := by
  by_cases hlen : l.length = m.length
  · have N : Hid (∀ j W, j < l.length → Hid (Below w.heap.size w W) → ∃ (b o b' o' : Nat) (x y : Int), p = some ⟨b, o, none⟩ ∧ r = some ⟨b', o', none⟩ ∧ (∀ n, (W.drewN n).cell? ⟨b, o + j, none⟩ = some (.int .i64 x)) ∧ (∀ n, (W.drewN n).cell? ⟨b', o' + j, none⟩ = some (.int .i64 y)) ∧ Hid (l[j]? = some x ∧ m[j]? = some y)) := fun j W hj h => by
      obtain ⟨b, o, hp', hc⟩ := now hp j hj
      obtain ⟨b', o', hr', hc'⟩ := now hr j (by omega)
      have hb : ∀ n, Below w.heap.size w (W.drewN n) := fun n => h.out.trans ((below_drewN W n).mono h.out.size)
      exact ⟨b, o, b', o', l[j], m[j]'(by omega), hp', hr', fun n => hc.out _ (hb n), fun n => hc'.out _ (hb n), List.getElem?_eq_getElem hj, List.getElem?_eq_getElem (by omega)⟩
    have S : Hid (Below w.heap.size w w) := Below.refl _ _
    have DR : Hid (∀ W n, Hid (Below w.heap.size w W) → Hid (Below w.heap.size w (W.drewN n))) := fun W n h => h.out.trans ((below_drewN W n).mono h.out.size)
    obtain ⟨q, hq⟩ : ∃ q, decide (l = m) = q := ⟨_, rfl⟩
    rw [hq]
    have D1 : Hid (∀ (j : Nat) (x y : Int), (l[j]? = some x ∧ m[j]? = some y) → decide (x = y) = false → q = false) := fun j x y hx hr => by
      rw [← hq]
      refine decide_eq_false fun h => ?_
      subst h
      rw [hx.1] at hx
      obtain rfl : x = y := by simpa using hx.2
      simp at hr
    have D2 : Hid ((∀ j : Nat, j < l.length → l[j]? = m[j]?) → q = true) := fun h => by
      rw [← hq]
      refine decide_eq_true (List.ext_getElem? fun j => ?_)
      by_cases hj : j < l.length
      · exact h j hj
      · rw [List.getElem?_eq_none (by omega), List.getElem?_eq_none (by omega)]
    clear hp hr hq
    obtain ⟨n, hn⟩ : ∃ n, l.length = n := ⟨_, rfl⟩
    rw [← hlen]
    rw [hn] at N D2 hl ⊢
    clear hn hlen
    go_enter Try.func31, Try.ntmps31
    go_wp2_with fail
    go_loopw [13] (fun i wr => ∃ j : Nat, j ≤ n ∧ i = .int .i64 j ∧ Hid (∀ j' : Nat, j' < j → l[j']? = m[j']?) ∧ Hid (Below w.heap.size w wr)) (fun i _ => n - (intOf i).toNat)
    case atStart => exact ⟨0, by omega, rfl, fun j' h => absurd h (Nat.not_lt_zero _), S⟩
    case round =>
      obtain ⟨j, hj, rfl, hR, hB⟩ := hrel
      clear S
      by_cases hlt : j < n
      · obtain ⟨b, o, b', o', x, y, rfl, rfl, hc, hc', hxy⟩ := N.out j _ hlt hB
        have K0 : Hid (wr.drew.cell? ⟨b, o + j, none⟩ = some (.int .i64 x) ∧ wr.drew.cell? ⟨b', o' + j, none⟩ = some (.int .i64 y)) := ⟨hc 1, hc' 1⟩
        have hjn : (j : Int) < (n : Int) := by omega
        have hj0 : (0 : Int) ≤ (j : Int) := by omega
        have hne : (x != y) = !decide (x = y) := by by_cases h : x = y <;> simp [h]
        have hDR := Lib.hid (fun n => (DR.out wr n hB).out)
        clear N DR hc hc'
        cases hr : decide (x = y) with
        | true =>
          have HR2 : Hid (∀ j' : Nat, j' < j + 1 → l[j']? = m[j']?) := fun j' hj' => by
            by_cases e : j' = j
            · subst e
              rw [hxy.out.1, hxy.out.2]
              rw [show x = y by simpa using hr]
            · exact hR.out j' (by omega)
          rw [hr] at hne
          clear hr hR hxy D1 D2 hB
          go_wp2_with fail
          go_region_held3 (fun V => V.cell? ⟨b, o + j, none⟩ = some (.int .i64 x) ∧ V.cell? ⟨b', o' + j, none⟩ = some (.int .i64 y)) (first | exact K0.out | assumption) (fail)
          go_wp2
          go_roundw
          case rel => exact ⟨j + 1, by omega, by simp, HR2, hDR.out _⟩
          case measure => simp [intOf]; omega
        | false =>
          have F := Lib.hid (D1.out _ _ _ hxy.out hr)
          rw [hr] at hne
          clear hr hR hxy D1 D2 hB
          go_wp2_with fail
          go_region_held3 (fun V => V.cell? ⟨b, o + j, none⟩ = some (.int .i64 x) ∧ V.cell? ⟨b', o' + j, none⟩ = some (.int .i64 y)) (first | exact K0.out | assumption) (fail)
          go_wp2
          go_ret
          exact ⟨by rw [F.out]; rfl, hDR.out _⟩
      · obtain rfl : j = n := by omega
        have F := Lib.hid (D2.out hR.out)
        clear N D1 D2 hR DR
        go_wp2
        go_ret
        exact ⟨by rw [F.out]; rfl, hB⟩
  · have e : decide (l = m) = false := decide_eq_false fun h => hlen (by rw [h])
    rw [e]
    have S : Hid (Below w.heap.size w w) := Below.refl _ _
    generalize l.length = n at *
    generalize m.length = n' at *
    have z1 : ¬ (n : Int) = (n' : Int) := by omega
    have z2 : ((n : Int) == (n' : Int)) = false := by simpa using z1
    have z3 : ((n : Int) != (n' : Int)) = true := by simpa using z1
    clear hp hr e
    go_enter Try.func31, Try.ntmps31
    go_wp2
    go_ret
    exact ⟨rfl, S⟩
set_option maxRecDepth 100000 in
set_option maxHeartbeats 2000000 in
theorem numbers33 (p r : Option Addr) (l m : List Int) (c c' : Nat) (w : World) (hp : La eI w p l) (hr : La eI w r m) (hl : l.length ≤ 1000000) : Calls Try.prog 33 #[.slice p l.length c, .slice r m.length c'] w fun e B => e = .returned (.bool (decide (l = m))) ∧ Hid (Below w.heap.size w B) := by
  by_cases hlen : l.length = m.length
  · have N : Hid (∀ j W, j < l.length → Hid (Below w.heap.size w W) → ∃ (b o b' o' : Nat) (x y : Int), p = some ⟨b, o, none⟩ ∧ r = some ⟨b', o', none⟩ ∧ (∀ n, (W.drewN n).cell? ⟨b, o + j, none⟩ = some (.int .i64 x)) ∧ (∀ n, (W.drewN n).cell? ⟨b', o' + j, none⟩ = some (.int .i64 y)) ∧ Hid (l[j]? = some x ∧ m[j]? = some y)) := fun j W hj h => by
      obtain ⟨b, o, hp', hc⟩ := now hp j hj
      obtain ⟨b', o', hr', hc'⟩ := now hr j (by omega)
      have hb : ∀ n, Below w.heap.size w (W.drewN n) := fun n => h.out.trans ((below_drewN W n).mono h.out.size)
      exact ⟨b, o, b', o', l[j], m[j]'(by omega), hp', hr', fun n => hc.out _ (hb n), fun n => hc'.out _ (hb n), List.getElem?_eq_getElem hj, List.getElem?_eq_getElem (by omega)⟩
    have S : Hid (Below w.heap.size w w) := Below.refl _ _
    have DR : Hid (∀ W n, Hid (Below w.heap.size w W) → Hid (Below w.heap.size w (W.drewN n))) := fun W n h => h.out.trans ((below_drewN W n).mono h.out.size)
    obtain ⟨q, hq⟩ : ∃ q, decide (l = m) = q := ⟨_, rfl⟩
    rw [hq]
    have D1 : Hid (∀ (j : Nat) (x y : Int), (l[j]? = some x ∧ m[j]? = some y) → decide (x = y) = false → q = false) := fun j x y hx hr => by
      rw [← hq]
      refine decide_eq_false fun h => ?_
      subst h
      rw [hx.1] at hx
      obtain rfl : x = y := by simpa using hx.2
      simp at hr
    have D2 : Hid ((∀ j : Nat, j < l.length → l[j]? = m[j]?) → q = true) := fun h => by
      rw [← hq]
      refine decide_eq_true (List.ext_getElem? fun j => ?_)
      by_cases hj : j < l.length
      · exact h j hj
      · rw [List.getElem?_eq_none (by omega), List.getElem?_eq_none (by omega)]
    clear hp hr hq
    obtain ⟨n, hn⟩ : ∃ n, l.length = n := ⟨_, rfl⟩
    rw [← hlen]
    rw [hn] at N D2 hl ⊢
    clear hn hlen
    go_enter Try.func33, Try.ntmps33
    go_wp2_with fail
    go_loopw [5] (fun i wr => ∃ j : Nat, j ≤ n ∧ i = .int .i64 j ∧ Hid (∀ j' : Nat, j' < j → l[j']? = m[j']?) ∧ Hid (Below w.heap.size w wr)) (fun i _ => n - (intOf i).toNat)
    case atStart => exact ⟨0, by omega, rfl, fun j' h => absurd h (Nat.not_lt_zero _), S⟩
    case round =>
      obtain ⟨j, hj, rfl, hR, hB⟩ := hrel
      clear S
      by_cases hlt : j < n
      · obtain ⟨b, o, b', o', x, y, rfl, rfl, hc, hc', hxy⟩ := N.out j _ hlt hB
        have K0 : Hid (wr.drew.cell? ⟨b, o + j, none⟩ = some (.int .i64 x) ∧ wr.drew.cell? ⟨b', o' + j, none⟩ = some (.int .i64 y)) := ⟨hc 1, hc' 1⟩
        have hjn : (j : Int) < (n : Int) := by omega
        have hj0 : (0 : Int) ≤ (j : Int) := by omega
        have hne : (x != y) = !decide (x = y) := by by_cases h : x = y <;> simp [h]
        have hDR := Lib.hid (fun n => (DR.out wr n hB).out)
        clear N DR hc hc'
        cases hr : decide (x = y) with
        | true =>
          have HR2 : Hid (∀ j' : Nat, j' < j + 1 → l[j']? = m[j']?) := fun j' hj' => by
            by_cases e : j' = j
            · subst e
              rw [hxy.out.1, hxy.out.2]
              rw [show x = y by simpa using hr]
            · exact hR.out j' (by omega)
          rw [hr] at hne
          clear hr hR hxy D1 D2 hB
          go_wp2_with fail
          go_region_held3 (fun V => V.cell? ⟨b, o + j, none⟩ = some (.int .i64 x) ∧ V.cell? ⟨b', o' + j, none⟩ = some (.int .i64 y)) (first | exact K0.out | assumption) (fail)
          go_wp2
          go_roundw
          case rel => exact ⟨j + 1, by omega, by simp, HR2, hDR.out _⟩
          case measure => simp [intOf]; omega
        | false =>
          have F := Lib.hid (D1.out _ _ _ hxy.out hr)
          rw [hr] at hne
          clear hr hR hxy D1 D2 hB
          go_wp2_with fail
          go_region_held3 (fun V => V.cell? ⟨b, o + j, none⟩ = some (.int .i64 x) ∧ V.cell? ⟨b', o' + j, none⟩ = some (.int .i64 y)) (first | exact K0.out | assumption) (fail)
          go_wp2
          go_ret
          exact ⟨by rw [F.out]; rfl, hDR.out _⟩
      · obtain rfl : j = n := by omega
        have F := Lib.hid (D2.out hR.out)
        clear N D1 D2 hR DR
        go_wp2
        go_ret
        exact ⟨by rw [F.out]; rfl, hB⟩
  · have e : decide (l = m) = false := decide_eq_false fun h => hlen (by rw [h])
    rw [e]
    have S : Hid (Below w.heap.size w w) := Below.refl _ _
    generalize l.length = n at *
    generalize m.length = n' at *
    have z1 : ¬ (n : Int) = (n' : Int) := by omega
    have z2 : ((n : Int) == (n' : Int)) = false := by simpa using z1
    have z3 : ((n : Int) != (n' : Int)) = true := by simpa using z1
    clear hp hr e
    go_enter Try.func33, Try.ntmps33
    go_wp2
    go_ret
    exact ⟨rfl, S⟩
end Go.Proofs.Ytfhcgildokdppaa
