/-
  Slices of programs as they lie; isPick and atMost of package script (with ContainsFunc and IndexFunc of slices beneath it) by their contracts, for every slice of programs and every slice of ints.
-/
import Derived.Test.YtfhcgildokdppaaNf
import Derived.Test.YtfhcgildokdppaaLi
namespace Go.Proofs.Ytfhcgildokdppaa
open Go.RowKit Go.Shelf tp
/-- the slice at p reads as the programs ps; an empty one may lie anywhere. -/
def Lp (w : World) (p : Option Addr) (ps : List (List Opn)) : Prop := 0 < ps.length → ∃ b o, p = some ⟨b, o, none⟩ ∧ ∀ i (h : i < ps.length), ∃ q c, w.cell? ⟨b, o + i, none⟩ = some (.slice q ps[i].length c) ∧ Ea w q ps[i]
theorem Lp.nil (w : World) (p : Option Addr) : Lp w p [] := fun h => absurd h (by simp)
theorem Lp.below {w w' : World} {p : Option Addr} {ps : List (List Opn)} (h : Lp w p ps) (hb : Below w.heap.size w w') : Lp w' p ps := fun h0 => by
  obtain ⟨b, o, hp, hi⟩ := h h0
  refine ⟨b, o, hp, fun i hl => ?_⟩
  obtain ⟨q, c, h1, h2⟩ := hi i hl
  exact ⟨q, c, (hb.cell (p := ⟨b, o + i, none⟩) (World.block_lt_of_cell? w ⟨b, o + i, none⟩ h1)).trans h1, h2.below hb⟩
/-- a program of the slice, as it reads now. -/
theorem nowP {w : World} {p : Option Addr} {ps : List (List Opn)} (hr : Lp w p ps) (j : Nat) (hj : j < ps.length) : ∃ (b o : Nat) (q : Option Addr) (c : Nat), p = some ⟨b, o, none⟩ ∧ Hid (∀ V, Below w.heap.size w V → V.cell? ⟨b, o + j, none⟩ = some (.slice q ps[j].length c) ∧ Ea V q ps[j]) := by
  obtain ⟨b, o, hp, hi⟩ := hr (by omega)
  obtain ⟨q, c, h1, h2⟩ := hi j hj
  exact ⟨b, o, q, c, hp, fun V hV => ⟨(hV.cell (p := ⟨b, o + j, none⟩) (World.block_lt_of_cell? w ⟨b, o + j, none⟩ h1)).trans h1, h2.below hV⟩⟩
theorem pick26 (x : Int) (w : World) : Calls Try.prog 26 #[.int .i64 x] w fun e B => e = .returned (.bool (decide (isK x))) ∧ B = w := by
  have T := Lib.hid (nearer22 x 0 255 w)
  have e : decide (isK x) = (x == nr x 0 255) := by
    by_cases h : isK x
    · rw [decide_eq_true h, nr_id x 0 255 h.1 h.2]
      simp
    · rw [decide_eq_false h]
      have := nr_in x 0 255 (by decide)
      unfold isK at h
      have h2 : x ≠ nr x 0 255 := by omega
      simp [h2]
  rw [e]
  clear e
  go_enter Try.func26, Try.ntmps26
  go_wp2_with fail
  refine T.out.mono ?_
  rintro e w1 ⟨rfl, E⟩
  obtain rfl := E
  go_wp2
  go_ret
  exact ⟨rfl, rfl⟩
theorem mk51 (b : Nat) (W : World) : (Instr.makeFunc (.func 51) #[] #[.pointer (some ⟨b, 0, none⟩)]).run Try.prog W = .ok (.func (.func 51) #[] #[.pointer (some ⟨b, 0, none⟩)]) W := by kernel_rfl
theorem mk54 (b : Nat) (W : World) : (Instr.makeFunc (.func 54) #[] #[.pointer (some ⟨b, 0, none⟩)]).run Try.prog W = .ok (.func (.func 54) #[] #[.pointer (some ⟨b, 0, none⟩)]) W := by kernel_rfl
/-- not all of them: what is looked for is there. -/
theorem all_dec {α : Type} {l : List α} {G : α → Prop} [DecidablePred G] {q : Bool} (hq : decide (∀ x ∈ l, G x) = q) : (∀ (j : Nat) (x : α), l[j]? = some x → decide (G x) = false → q = false) ∧ ((∀ (j : Nat) (x : α), l[j]? = some x → G x) → q = true) := by
  constructor
  · intro j x hx hr
    rw [← hq]
    refine decide_eq_false fun h => ?_
    have := h x (List.mem_of_getElem? hx)
    rw [decide_eq_true this] at hr
    cases hr
  · intro h
    rw [← hq]
    refine decide_eq_true fun x hx => ?_
    obtain ⟨j, hj⟩ := List.getElem?_of_mem hx
    exact h j x hj
theorem not51 (q : Option Addr) (l : List Opn) (c X : Nat) (w : World) (hp : Ea w q l) (hX : w.cell? ⟨X, 0, none⟩ = some (.func (.func 24) #[] #[])) : Calls Try.prog 51 #[.slice q l.length c, .pointer (some ⟨X, 0, none⟩)] w fun e B => e = .returned (.bool (!decide (fine l))) ∧ Hid (Below w.heap.size w B) := by
  have T := Lib.hid (fine12 q l c w hp)
  clear hp
  generalize decide (fine l) = z at *
  generalize l.length = n at *
  go_enter Try.func51, Try.ntmps51
  go_wp2_with fail
  refine T.out.mono ?_
  rintro e w1 ⟨rfl, h1⟩
  go_wp2
  go_ret
  exact ⟨rfl, h1⟩
set_option maxHeartbeats 2000000 in
theorem index62 (p : Option Addr) (ps : List (List Opn)) (c X : Nat) (w : World) (hp : Lp w p ps) (hl6 : ps.length ≤ 1000000) (hX : w.cell? ⟨X, 0, none⟩ = some (.func (.func 24) #[] #[])) : Calls Try.prog 62 #[.slice p ps.length c, .func (.func 51) #[] #[.pointer (some ⟨X, 0, none⟩)]] w fun e B => ∃ z : Int, e = .returned (.int .i64 z) ∧ Hid (decide (0 ≤ z) = !decide (fines ps) ∧ Below w.heap.size w B) := by
  have hXl := World.block_lt_of_cell? w ⟨X, 0, none⟩ hX
  have N : Hid (∀ j W, j < ps.length → Hid (Below w.heap.size w W) → ∃ (b o : Nat) (q : Option Addr) (x : List Opn) (m k : Nat), p = some ⟨b, o, none⟩ ∧ W.cell? ⟨b, o + j, none⟩ = some (.slice q m k) ∧ ps[j]? = some x ∧ Hid (Calls Try.prog 51 #[.slice q m k, .pointer (some ⟨X, 0, none⟩)] W fun e B => e = .returned (.bool (!decide (fine x))) ∧ Hid (Below w.heap.size w B))) := fun j W hj h => by
    obtain ⟨b, o, q, k, hp', hc⟩ := nowP hp j hj
    obtain ⟨h1, h2⟩ := hc.out W h.out
    refine ⟨b, o, q, ps[j], _, k, hp', h1, List.getElem?_eq_getElem hj, (not51 q ps[j] k X W h2 ((h.out.cell (p := ⟨X, 0, none⟩) hXl).trans hX)).mono fun e B ⟨he, hB⟩ => ⟨he, h.out.trans (hB.out.mono h.out.size)⟩⟩
  have S : Hid (Below w.heap.size w w) := Below.refl _ _
  obtain ⟨q, hq⟩ : ∃ q, decide (fines ps) = q := ⟨_, rfl⟩
  rw [hq]
  obtain ⟨D1, D2⟩ := all_dec (l := ps) (G := fine) hq
  replace D1 := Lib.hid D1
  replace D2 := Lib.hid D2
  have HL : Hid (∀ j x, ps[j]? = some x → j < ps.length) := fun j x h => (List.getElem?_eq_some_iff.1 h).1
  clear hp hq hX hXl
  obtain ⟨n, hn⟩ : ∃ n, ps.length = n := ⟨_, rfl⟩
  rw [hn] at N HL hl6 ⊢
  clear hn
  go_enter Try.func62, Try.ntmps62
  go_wp2_with fail
  go_loopw [8] (fun i wr => ∃ j : Nat, j ≤ n ∧ i = .int .i64 j ∧ Hid (∀ j' x, j' < j → ps[j']? = some x → fine x) ∧ Hid (Below w.heap.size w wr)) (fun i _ => n - (intOf i).toNat)
  case atStart => exact ⟨0, by omega, rfl, fun j' x h => absurd h (Nat.not_lt_zero _), S⟩
  case round =>
    obtain ⟨j, hj, rfl, hR, hB⟩ := hrel
    clear S
    by_cases hlt : j < n
    · obtain ⟨b, o, q', x, m, k, rfl, c0, hx, T⟩ := N.out j _ hlt hB
      have hjn : (j : Int) < (n : Int) := by omega
      have hj0 : (0 : Int) ≤ (j : Int) := by omega
      have HX := Lib.hid hx
      clear N hx hB
      cases hr : decide (fine x) with
      | true =>
        rw [hr] at T
        have HR2 : Hid (∀ j' x, j' < j + 1 → ps[j']? = some x → fine x) := fun j' x hj' hx => by
          by_cases e : j' = j
          · subst e
            rw [HX.out] at hx
            cases hx
            simpa using hr
          · exact hR.out j' x (by omega) hx
        clear hr hR HX D1 D2
        go_wp2_with fail
        refine T.out.mono ?_
        rintro e w2 ⟨rfl, h2⟩
        go_wp2
        go_roundw
        case rel => exact ⟨j + 1, by omega, by simp, HR2, h2⟩
        case measure => simp [intOf]; omega
      | false =>
        rw [hr] at T
        have F := Lib.hid (D1.out _ _ HX.out hr)
        clear hr hR HX D1 D2
        go_wp2_with fail
        refine T.out.mono ?_
        rintro e w2 ⟨rfl, h2⟩
        go_wp2
        go_ret
        exact ⟨_, rfl, by rw [F.out]; simp, h2.out⟩
    · obtain rfl : j = n := by omega
      have F := Lib.hid (D2.out fun j' x hx => hR.out j' x (HL.out j' x hx) hx)
      clear N D1 D2 hR HL
      go_wp2
      go_ret
      exact ⟨_, rfl, by rw [F.out]; rfl, hB.out⟩
theorem contains50 (p : Option Addr) (ps : List (List Opn)) (c X : Nat) (w : World) (hp : Lp w p ps) (hl6 : ps.length ≤ 1000000) (hX : w.cell? ⟨X, 0, none⟩ = some (.func (.func 24) #[] #[])) : Calls Try.prog 50 #[.slice p ps.length c, .func (.func 51) #[] #[.pointer (some ⟨X, 0, none⟩)]] w fun e B => e = .returned (.bool (!decide (fines ps))) ∧ Hid (Below w.heap.size w B) := by
  have T := Lib.hid (index62 p ps c X w hp hl6 hX)
  clear hp hX
  generalize decide (fines ps) = q at *
  generalize ps.length = n at *
  go_enter Try.func50, Try.ntmps50
  go_wp2_with fail
  refine T.out.mono ?_
  rintro e w1 ⟨z, rfl, h1⟩
  have hz := h1.out.1
  have HB := Lib.hid h1.out.2
  clear T h1
  go_wp2
  go_ret
  exact ⟨rfl, HB⟩
theorem most23 (m : Nat) (hm6 : m ≤ 1000000) (p : Option Addr) (ps : List (List Opn)) (c : Nat) (w : World) (hp : Lp w p ps) : Calls Try.prog 23 #[.int .i64 (m : Int), .slice p ps.length c, .func (.func 24) #[] #[]] w fun e B => e = .returned (.bool (decide (ps.length ≤ m ∧ fines ps))) ∧ Hid (Below w.heap.size w B) := by
  obtain ⟨N, hN⟩ : ∃ N, w.heap.size = N := ⟨_, rfl⟩
  rw [hN]
  obtain ⟨W1, hW1⟩ : ∃ W1, w.alloc (.cells #[.func (.func 24) #[] #[]] 47) = W1 := ⟨_, rfl⟩
  have hb : Below N w W1 := by rw [← hW1, ← hN]; exact (Below.refl _ _).alloc (Nat.le_refl _) _
  have T : ps.length ≤ m → Hid (Calls Try.prog 50 #[.slice p ps.length c, .func (.func 51) #[] #[.pointer (some ⟨N, 0, none⟩)]] W1 fun e B => e = .returned (.bool (!decide (fines ps))) ∧ Hid (Below N w B)) := fun hle => by
    refine (contains50 p ps c N W1 (hp.below (hN ▸ hb)) (by omega) ?_).mono fun e B ⟨he, hB⟩ => ⟨he, hb.trans (hB.out.mono (by have := hb.size; omega))⟩
    rw [← hW1]
    exact cell_of (heap_next hN.symm _) 0
  have HB := Lib.hid hb
  have hm := mk51 N
  rw [Bool.decide_and]
  clear hp hb
  generalize decide (fines ps) = q at *
  generalize ps.length = n at *
  by_cases h : n ≤ m
  · have z : (n : Int) ≤ (m : Int) := by omega
    replace T := Lib.hid (T h).out
    rw [decide_eq_true h]
    go_enter Try.func23, Try.ntmps23
    go_wp2_with fail
    refine T.out.mono ?_
    rintro e w1 ⟨rfl, h1⟩
    go_wp2
    go_ret
    exact ⟨by simp, h1⟩
  · have z : ¬ (n : Int) ≤ (m : Int) := by omega
    rw [decide_eq_false h]
    clear T hm
    go_enter Try.func23, Try.ntmps23
    go_wp2
    go_ret
    exact ⟨by simp, HB⟩
theorem not54 (x : Int) (X : Nat) (w : World) (hX : w.cell? ⟨X, 0, none⟩ = some (.func (.func 26) #[] #[])) : Calls Try.prog 54 #[.int .i64 x, .pointer (some ⟨X, 0, none⟩)] w fun e B => e = .returned (.bool (!decide (isK x))) ∧ Hid (Below w.heap.size w B) := by
  have T := Lib.hid (pick26 x w)
  have HB : Hid (Below w.heap.size w w) := Below.refl _ _
  generalize decide (isK x) = z at *
  go_enter Try.func54, Try.ntmps54
  go_wp2_with fail
  refine T.out.mono ?_
  rintro e w1 ⟨rfl, E⟩
  obtain rfl := E
  go_wp2
  go_ret
  exact ⟨rfl, HB⟩
set_option maxHeartbeats 2000000 in
theorem index64 (p : Option Addr) (ps : List Int) (c X : Nat) (w : World) (hp : La eI w p ps) (hl6 : ps.length ≤ 1000000) (hX : w.cell? ⟨X, 0, none⟩ = some (.func (.func 26) #[] #[])) : Calls Try.prog 64 #[.slice p ps.length c, .func (.func 54) #[] #[.pointer (some ⟨X, 0, none⟩)]] w fun e B => ∃ z : Int, e = .returned (.int .i64 z) ∧ Hid (decide (0 ≤ z) = !decide (picks ps) ∧ Below w.heap.size w B) := by
  have hXl := World.block_lt_of_cell? w ⟨X, 0, none⟩ hX
  have N : Hid (∀ j W, j < ps.length → Hid (Below w.heap.size w W) → ∃ (b o : Nat) (x : Int), p = some ⟨b, o, none⟩ ∧ W.cell? ⟨b, o + j, none⟩ = some (.int .i64 x) ∧ ps[j]? = some x ∧ Hid (Calls Try.prog 54 #[.int .i64 x, .pointer (some ⟨X, 0, none⟩)] W fun e B => e = .returned (.bool (!decide (isK x))) ∧ Hid (Below w.heap.size w B))) := fun j W hj h => by
    obtain ⟨b, o, hp', hc⟩ := now hp j hj
    refine ⟨b, o, ps[j], hp', hc.out W h.out, List.getElem?_eq_getElem hj, (not54 ps[j] X W ((h.out.cell (p := ⟨X, 0, none⟩) hXl).trans hX)).mono fun e B ⟨he, hB⟩ => ⟨he, h.out.trans (hB.out.mono h.out.size)⟩⟩
  have S : Hid (Below w.heap.size w w) := Below.refl _ _
  obtain ⟨q, hq⟩ : ∃ q, decide (picks ps) = q := ⟨_, rfl⟩
  rw [hq]
  obtain ⟨D1, D2⟩ := all_dec (l := ps) (G := isK) hq
  replace D1 := Lib.hid D1
  replace D2 := Lib.hid D2
  have HL : Hid (∀ j x, ps[j]? = some x → j < ps.length) := fun j x h => (List.getElem?_eq_some_iff.1 h).1
  clear hp hq hX hXl
  obtain ⟨n, hn⟩ : ∃ n, ps.length = n := ⟨_, rfl⟩
  rw [hn] at N HL hl6 ⊢
  clear hn
  go_enter Try.func64, Try.ntmps64
  go_wp2_with fail
  go_loopw [8] (fun i wr => ∃ j : Nat, j ≤ n ∧ i = .int .i64 j ∧ Hid (∀ j' x, j' < j → ps[j']? = some x → isK x) ∧ Hid (Below w.heap.size w wr)) (fun i _ => n - (intOf i).toNat)
  case atStart => exact ⟨0, by omega, rfl, fun j' x h => absurd h (Nat.not_lt_zero _), S⟩
  case round =>
    obtain ⟨j, hj, rfl, hR, hB⟩ := hrel
    clear S
    by_cases hlt : j < n
    · obtain ⟨b, o, x, rfl, c0, hx, T⟩ := N.out j _ hlt hB
      have hjn : (j : Int) < (n : Int) := by omega
      have hj0 : (0 : Int) ≤ (j : Int) := by omega
      have HX := Lib.hid hx
      clear N hx hB
      cases hr : decide (isK x) with
      | true =>
        rw [hr] at T
        have HR2 : Hid (∀ j' x, j' < j + 1 → ps[j']? = some x → isK x) := fun j' x hj' hx => by
          by_cases e : j' = j
          · subst e
            rw [HX.out] at hx
            cases hx
            simpa using hr
          · exact hR.out j' x (by omega) hx
        clear hr hR HX D1 D2
        go_wp2_with fail
        refine T.out.mono ?_
        rintro e w2 ⟨rfl, h2⟩
        go_wp2
        go_roundw
        case rel => exact ⟨j + 1, by omega, by simp, HR2, h2⟩
        case measure => simp [intOf]; omega
      | false =>
        rw [hr] at T
        have F := Lib.hid (D1.out _ _ HX.out hr)
        clear hr hR HX D1 D2
        go_wp2_with fail
        refine T.out.mono ?_
        rintro e w2 ⟨rfl, h2⟩
        go_wp2
        go_ret
        exact ⟨_, rfl, by rw [F.out]; simp, h2.out⟩
    · obtain rfl : j = n := by omega
      have F := Lib.hid (D2.out fun j' x hx => hR.out j' x (HL.out j' x hx) hx)
      clear N D1 D2 hR HL
      go_wp2
      go_ret
      exact ⟨_, rfl, by rw [F.out]; rfl, hB.out⟩
theorem contains53 (p : Option Addr) (ps : List Int) (c X : Nat) (w : World) (hp : La eI w p ps) (hl6 : ps.length ≤ 1000000) (hX : w.cell? ⟨X, 0, none⟩ = some (.func (.func 26) #[] #[])) : Calls Try.prog 53 #[.slice p ps.length c, .func (.func 54) #[] #[.pointer (some ⟨X, 0, none⟩)]] w fun e B => e = .returned (.bool (!decide (picks ps))) ∧ Hid (Below w.heap.size w B) := by
  have T := Lib.hid (index64 p ps c X w hp hl6 hX)
  clear hp hX
  generalize decide (picks ps) = q at *
  generalize ps.length = n at *
  go_enter Try.func53, Try.ntmps53
  go_wp2_with fail
  refine T.out.mono ?_
  rintro e w1 ⟨z, rfl, h1⟩
  have hz := h1.out.1
  have HB := Lib.hid h1.out.2
  clear T h1
  go_wp2
  go_ret
  exact ⟨rfl, HB⟩
theorem most25 (m : Nat) (hm6 : m ≤ 1000000) (p : Option Addr) (ps : List Int) (c : Nat) (w : World) (hp : La eI w p ps) : Calls Try.prog 25 #[.int .i64 (m : Int), .slice p ps.length c, .func (.func 26) #[] #[]] w fun e B => e = .returned (.bool (decide (ps.length ≤ m ∧ picks ps))) ∧ Hid (Below w.heap.size w B) := by
  obtain ⟨N, hN⟩ : ∃ N, w.heap.size = N := ⟨_, rfl⟩
  rw [hN]
  obtain ⟨W1, hW1⟩ : ∃ W1, w.alloc (.cells #[.func (.func 26) #[] #[]] 49) = W1 := ⟨_, rfl⟩
  have hb : Below N w W1 := by rw [← hW1, ← hN]; exact (Below.refl _ _).alloc (Nat.le_refl _) _
  have T : ps.length ≤ m → Hid (Calls Try.prog 53 #[.slice p ps.length c, .func (.func 54) #[] #[.pointer (some ⟨N, 0, none⟩)]] W1 fun e B => e = .returned (.bool (!decide (picks ps))) ∧ Hid (Below N w B)) := fun hle => by
    refine (contains53 p ps c N W1 (hp.below (hN ▸ hb)) (by omega) ?_).mono fun e B ⟨he, hB⟩ => ⟨he, hb.trans (hB.out.mono (by have := hb.size; omega))⟩
    rw [← hW1]
    exact cell_of (heap_next hN.symm _) 0
  have HB := Lib.hid hb
  have hm := mk54 N
  rw [Bool.decide_and]
  clear hp hb
  generalize decide (picks ps) = q at *
  generalize ps.length = n at *
  by_cases h : n ≤ m
  · have z : (n : Int) ≤ (m : Int) := by omega
    replace T := Lib.hid (T h).out
    rw [decide_eq_true h]
    go_enter Try.func25, Try.ntmps25
    go_wp2_with fail
    refine T.out.mono ?_
    rintro e w1 ⟨rfl, h1⟩
    go_wp2
    go_ret
    exact ⟨by simp, h1⟩
  · have z : ¬ (n : Int) ≤ (m : Int) := by omega
    rw [decide_eq_false h]
    clear T hm
    go_enter Try.func25, Try.ntmps25
    go_wp2
    go_ret
    exact ⟨by simp, HB⟩
end Go.Proofs.Ytfhcgildokdppaa
