/-
  Same of package script (slices.EqualFunc beneath it) and the document's by their contracts, for every two scripts of at most a million programs, calls, picks and draws each.
-/
import Derived.Test.YtfhcgildokdppaaEq
namespace Go.Proofs.Ytfhcgildokdppaa
open Go.RowKit Go.Shelf tp
/-- two lists, compared place by place. -/
theorem eq_dec {α : Type} [DecidableEq α] {l m : List α} {q : Bool} (hlen : l.length = m.length) (hq : decide (l = m) = q) : (∀ (j : Nat) (x y : α), (l[j]? = some x ∧ m[j]? = some y) → decide (x = y) = false → q = false) ∧ ((∀ j : Nat, j < l.length → l[j]? = m[j]?) → q = true) := by
  constructor
  · intro j x y hx hr
    rw [← hq]
    refine decide_eq_false fun h => ?_
    subst h
    rw [hx.1] at hx
    obtain rfl : x = y := by simpa using hx.2
    simp at hr
  · intro h
    rw [← hq]
    refine decide_eq_true (List.ext_getElem? fun j => ?_)
    by_cases hj : j < l.length
    · exact h j hj
    · rw [List.getElem?_eq_none (by omega), List.getElem?_eq_none (by omega)]
set_option maxHeartbeats 2000000 in
theorem equalfunc29 (p r : Option Addr) (ps rs : List (List Opn)) (c c' : Nat) (w : World) (hp : Lp w p ps) (hr : Lp w r rs) (hl : ps.length ≤ 1000000) (hin : ∀ l ∈ ps, l.length ≤ 1000000) : Calls Try.prog 29 #[.slice p ps.length c, .slice r rs.length c', .func (.func 30) #[] #[]] w fun e B => e = .returned (.bool (decide (ps = rs))) ∧ Hid (Below w.heap.size w B) := by
  by_cases hlen : ps.length = rs.length
  · have N : Hid (∀ j W, j < ps.length → Hid (Below w.heap.size w W) → ∃ (b o b' o' : Nat) (q q' : Option Addr) (m k m' k' : Nat) (x y : List Opn), p = some ⟨b, o, none⟩ ∧ r = some ⟨b', o', none⟩ ∧ W.cell? ⟨b, o + j, none⟩ = some (.slice q m k) ∧ W.cell? ⟨b', o' + j, none⟩ = some (.slice q' m' k') ∧ Hid (ps[j]? = some x ∧ rs[j]? = some y) ∧
        Hid (Calls Try.prog 30 #[.slice q m k, .slice q' m' k'] W fun e B => e = .returned (.bool (decide (x = y))) ∧ Hid (Below w.heap.size w B))) := fun j W hj h => by
      obtain ⟨b, o, q, k, hp', hc⟩ := nowP hp j hj
      obtain ⟨b', o', q', k', hr', hc'⟩ := nowP hr j (by omega)
      obtain ⟨h1, h2⟩ := hc.out W h.out
      obtain ⟨h3, h4⟩ := hc'.out W h.out
      exact ⟨b, o, b', o', q, q', _, k, _, k', ps[j], rs[j]'(by omega), hp', hr', h1, h3, ⟨List.getElem?_eq_getElem hj, List.getElem?_eq_getElem (by omega)⟩, (equal30 q q' ps[j] (rs[j]'(by omega)) k k' W h2 h4 (hin _ (List.getElem_mem hj))).mono fun e B ⟨he, hB⟩ => ⟨he, h.out.trans (hB.out.mono h.out.size)⟩⟩
    have S : Hid (Below w.heap.size w w) := Below.refl _ _
    obtain ⟨q, hq⟩ : ∃ q, decide (ps = rs) = q := ⟨_, rfl⟩
    rw [hq]
    obtain ⟨D1, D2⟩ := eq_dec hlen hq
    replace D1 := Lib.hid D1
    replace D2 := Lib.hid D2
    clear hp hr hq hin
    obtain ⟨n, hn⟩ : ∃ n, ps.length = n := ⟨_, rfl⟩
    rw [← hlen]
    rw [hn] at N D2 hl ⊢
    clear hn hlen
    go_enter Try.func29, Try.ntmps29
    go_wp2_with fail
    go_loopw [17] (fun i wr => ∃ j : Nat, j ≤ n ∧ i = .int .i64 j ∧ Hid (∀ j' : Nat, j' < j → ps[j']? = rs[j']?) ∧ Hid (Below w.heap.size w wr)) (fun i _ => n - (intOf i).toNat)
    case atStart => exact ⟨0, by omega, rfl, fun j' h => absurd h (Nat.not_lt_zero _), S⟩
    case round =>
      obtain ⟨j, hj, rfl, hR, hB⟩ := hrel
      clear S
      by_cases hlt : j < n
      · obtain ⟨b, o, b', o', q1, q2, m, k, m', k', x, y, rfl, rfl, c0, c1, hxy, T⟩ := N.out j _ hlt hB
        have hjn : (j : Int) < (n : Int) := by omega
        have hj0 : (0 : Int) ≤ (j : Int) := by omega
        clear N hB
        cases hr : decide (x = y) with
        | true =>
          have HR2 : Hid (∀ j' : Nat, j' < j + 1 → ps[j']? = rs[j']?) := fun j' hj' => by
            by_cases e : j' = j
            · subst e
              rw [hxy.out.1, hxy.out.2]
              rw [show x = y by simpa using hr]
            · exact hR.out j' (by omega)
          rw [hr] at T
          clear hr hR hxy D1 D2
          go_wp2_with fail
          refine T.out.mono ?_
          rintro e w2 ⟨rfl, h2⟩
          go_wp2
          go_roundw
          case rel => exact ⟨j + 1, by omega, by simp, HR2, h2⟩
          case measure => simp [intOf]; omega
        | false =>
          have F := Lib.hid (D1.out _ _ _ hxy.out hr)
          rw [hr] at T
          clear hr hR hxy D1 D2
          go_wp2_with fail
          refine T.out.mono ?_
          rintro e w2 ⟨rfl, h2⟩
          go_wp2
          go_ret
          exact ⟨by rw [F.out]; rfl, h2⟩
      · obtain rfl : j = n := by omega
        have F := Lib.hid (D2.out hR.out)
        clear N D1 D2 hR
        go_wp2
        go_ret
        exact ⟨by rw [F.out]; rfl, hB⟩
  · have e : decide (ps = rs) = false := decide_eq_false fun h => hlen (by rw [h])
    rw [e]
    have S : Hid (Below w.heap.size w w) := Below.refl _ _
    generalize ps.length = n at *
    generalize rs.length = n' at *
    have z1 : ¬ (n : Int) = (n' : Int) := by omega
    have z2 : ((n : Int) == (n' : Int)) = false := by simpa using z1
    have z3 : ((n : Int) != (n' : Int)) = true := by simpa using z1
    clear hp hr e
    go_enter Try.func29, Try.ntmps29
    go_wp2
    go_ret
    exact ⟨rfl, S⟩
/-- a script of few things. -/
structure Few (s : Scr) : Prop where
  ps : s.ps.length ≤ 1000000
  ins : ∀ l ∈ s.ps, l.length ≤ 1000000
  ks : s.ks.length ≤ 1000000
  ds : s.ds.length ≤ 1000000
theorem same_dec (s t : Scr) : decide (s = t) = (decide (s.c = t.c) && (decide (s.ps = t.ps) && (decide (s.ks = t.ks) && decide (s.ds = t.ds)))) := by
  rw [Bool.eq_iff_iff]
  simp only [decide_eq_true_eq, Bool.and_eq_true]
  exact (Scr.same s t).symm
/-- two scripts' boxes, one behind the other. -/
theorem twoS {w W1 : World} {N : Nat} {a b : Array Value} (hN : w.heap.size = N) (h : (w.alloc (.cells a 27)).alloc (.cells b 27) = W1) : W1.heap[N]? = some (.cells a 27 (0, 0)) ∧ W1.heap[N + 1]? = some (.cells b 27 (0, 0)) ∧ Below N w W1 ∧ W1.heap.size = N + 2 := by
  subst hN
  rw [← h]
  exact ⟨heap_old (heap_next rfl _), heap_next (by simp) _, ((Below.refl _ _).alloc (Nat.le_refl _) _).alloc (by simp) _, by simp⟩
set_option maxHeartbeats 2000000 in
theorem same14 (s t : Scr) (x y : Ad) (w : World) (h : Sc w s x) (h' : Sc w t y) (hf : Few s) : Calls Try.prog 14 #[sv s x, sv t y] w fun e B => e = .returned (.bool (decide (s = t))) ∧ Hid (Below w.heap.size w B) := by
  obtain ⟨N, hN⟩ : ∃ N, w.heap.size = N := ⟨_, rfl⟩
  rw [hN]
  obtain ⟨W1, hW1⟩ : ∃ W1, (w.alloc (.cells (scs s x) 27)).alloc (.cells (scs t y) 27) = W1 := ⟨_, rfl⟩
  obtain ⟨hO, hO', hb, hs⟩ := twoS hN hW1
  have LA : ∀ V, Below W1.heap.size W1 V → Below w.heap.size w V := fun V hV => (hN ▸ hb).trans (hV.mono (by omega))
  have C1 : Cc N s.c W1 := cellsS hO
  have C2 : Cc (N + 1) t.c W1 := cellsS hO'
  have CA : Hid (∀ V, Hid (Below W1.heap.size W1 V) → S3 N x.p s.ps.length x.pc x.k s.ks.length x.kc x.d s.ds.length x.dc V ∧ S3 (N + 1) y.p t.ps.length y.pc y.k t.ks.length y.kc y.d t.ds.length y.dc V) := fun V hV => ⟨cells3 ((hV.out.block N (by omega)).trans hO), cells3 ((hV.out.block (N + 1) (by omega)).trans hO')⟩
  have T29 : Hid (∀ V, Hid (Below W1.heap.size W1 V) → Calls Try.prog 29 #[.slice x.p s.ps.length x.pc, .slice y.p t.ps.length y.pc, .func (.func 30) #[] #[]] V fun e B => e = .returned (.bool (decide (s.ps = t.ps))) ∧ Hid (Below W1.heap.size W1 B)) := fun V hV => (equalfunc29 x.p y.p s.ps t.ps x.pc y.pc V (h.ps.below (LA V hV.out)) (h'.ps.below (LA V hV.out)) hf.ps hf.ins).mono fun e B ⟨he, hB⟩ => ⟨he, hV.out.trans (hB.out.mono hV.out.size)⟩
  have Tk : Hid (∀ V, Hid (Below W1.heap.size W1 V) → Calls Try.prog 31 #[.slice x.k s.ks.length x.kc, .slice y.k t.ks.length y.kc] V fun e B => e = .returned (.bool (decide (s.ks = t.ks))) ∧ Hid (Below W1.heap.size W1 B)) := fun V hV => (equal31 x.k y.k s.ks t.ks x.kc y.kc V (h.ks.below (LA V hV.out)) (h'.ks.below (LA V hV.out)) hf.ks).mono fun e B ⟨he, hB⟩ => ⟨he, hV.out.trans (hB.out.mono hV.out.size)⟩
  have Td : Hid (∀ V, Hid (Below W1.heap.size W1 V) → Calls Try.prog 31 #[.slice x.d s.ds.length x.dc, .slice y.d t.ds.length y.dc] V fun e B => e = .returned (.bool (decide (s.ds = t.ds))) ∧ Hid (Below W1.heap.size W1 B)) := fun V hV => (equal31 x.d y.d s.ds t.ds x.dc y.dc V (h.ds.below (LA V hV.out)) (h'.ds.below (LA V hV.out)) hf.ds).mono fun e B ⟨he, hB⟩ => ⟨he, hV.out.trans (hB.out.mono hV.out.size)⟩
  have F : Hid (∀ V, Hid (Below W1.heap.size W1 V) → Hid (Below N w V)) := fun V hV => hN ▸ LA V hV.out
  have B0 : Hid (Below W1.heap.size W1 W1) := Below.refl _ _
  have e1 := eqC s.c t.c
  rw [same_dec]
  clear h h' hb hO hO' LA hf
  generalize decide (s.c = t.c) = q1 at *
  generalize decide (s.ps = t.ps) = q2 at *
  generalize decide (s.ks = t.ks) = q3 at *
  generalize decide (s.ds = t.ds) = q4 at *
  obtain ⟨⟨mx, bu, co, ba, bi⟩, ps, ks, ds⟩ := s
  obtain ⟨p, pc, k, kc, d, dc⟩ := x
  obtain ⟨⟨mx', bu', co', ba', bi'⟩, ps', ks', ds'⟩ := t
  obtain ⟨p', pc', k', kc', d', dc'⟩ := y
  simp only at *
  generalize ps.length = n at *
  generalize ks.length = m at *
  generalize ds.length = l at *
  generalize ps'.length = n' at *
  generalize ks'.length = m' at *
  generalize ds'.length = l' at *
  obtain ⟨⟨c5, c6, c7⟩, c8, c9, c10⟩ := CA.out _ B0
  cases q1
  · clear T29 Tk Td
    go_enter Try.func14, Try.ntmps14
    go_wp2
    go_ret
    exact ⟨rfl, F.out _ B0⟩
  · cases q2
    · clear Tk Td
      go_enter Try.func14, Try.ntmps14
      go_wp2_with (go_at_call 29; refine (T29.out _ B0).mono ?_; rintro e w2 ⟨rfl, h2⟩; obtain ⟨⟨d5, d6, d7⟩, d8, d9, d10⟩ := CA.out _ h2)
      go_ret
      exact ⟨rfl, F.out _ h2⟩
    · cases q3
      · clear Td
        go_enter Try.func14, Try.ntmps14
        go_wp2_with (first
          | (go_at_call 29; refine (T29.out _ B0).mono ?_; rintro e w2 ⟨rfl, h2⟩; obtain ⟨⟨d5, d6, d7⟩, d8, d9, d10⟩ := CA.out _ h2)
          | (go_at_call 31; refine (Tk.out _ h2).mono ?_; rintro e w3 ⟨rfl, h3⟩; obtain ⟨⟨f5, f6, f7⟩, f8, f9, f10⟩ := CA.out _ h3))
        go_ret
        exact ⟨rfl, F.out _ h3⟩
      · go_enter Try.func14, Try.ntmps14
        go_wp2_with (first
          | (go_at_call 31; refine (Td.out _ h3).mono ?_; rintro e w4 ⟨rfl, h4⟩)
          | (go_at_call 31; refine (Tk.out _ h2).mono ?_; rintro e w3 ⟨rfl, h3⟩; obtain ⟨⟨f5, f6, f7⟩, f8, f9, f10⟩ := CA.out _ h3)
          | (go_at_call 29; refine (T29.out _ B0).mono ?_; rintro e w2 ⟨rfl, h2⟩; obtain ⟨⟨d5, d6, d7⟩, d8, d9, d10⟩ := CA.out _ h2))
        go_ret
        exact ⟨by cases q4 <;> rfl, F.out _ h4⟩
end Go.Proofs.Ytfhcgildokdppaa
