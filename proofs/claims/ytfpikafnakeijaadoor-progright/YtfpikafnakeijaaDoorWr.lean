/-
  ProgRight walked: for every slice of calls and every int it returns true, where the names read as they were laid; what was in memory stays.
-/
import Derived.Test.YtfpikafnakeijaaDoorAw
import Derived.Deep.DeepCutAuto
import Derived.Deep.CutRange
namespace Go.Proofs.YtfpikafnakeijaaDoor
open Go.RowKit Go.Shelf tp
/-- a name in the list of names. -/
theorem nam_cell (w : World) (i : Nat) (hi : i < 8) : (w.alloc (.cells #[.string ⟨#[110, 111, 110, 101]⟩, .string ⟨#[103, 101, 116]⟩, .string ⟨#[115, 101, 116]⟩, .string ⟨#[100, 101, 108]⟩, .string ⟨#[119, 97, 105, 116]⟩, .string ⟨#[99, 108, 101, 97, 114]⟩, .string ⟨#[99, 108, 111, 115, 101]⟩, .string ⟨#[108, 105, 109, 105, 116]⟩] 9)).cell? ⟨w.heap.size, i, none⟩ = some (.string (nam.getD i ⟨#[]⟩)) := by
  rw [cell_of (heap_next rfl _)]
  rcases (show i = 0 ∨ i = 1 ∨ i = 2 ∨ i = 3 ∨ i = 4 ∨ i = 5 ∨ i = 6 ∨ i = 7 by omega) with rfl | rfl | rfl | rfl | rfl | rfl | rfl | rfl <;> rfl
set_option maxRecDepth 100000 in
set_option maxHeartbeats 4000000 in
theorem right_walk (p : Option Addr) (l : List Opn) (cap : Nat) (kind : Int) {w : World} (hN : Names w) (hp : Ea w p l) :
    Calls Tryd.prog 3 #[.slice p l.length cap, .int .i64 kind] w fun e B => e = .returned (.bool true) ∧ Below w.heap.size w B := by
  have T6 : Hid (∀ V, Hid (Below w.heap.size w V) → Calls Tryd.prog 6 #[] V fun e B => e = .returned (.bool true) ∧ Hid (Below w.heap.size w B)) := fun V h =>
    (awake6 (hN.below hN.1 h.out)).mono fun e B ⟨he, hB⟩ => ⟨he, h.out.trans (hB.out.mono h.out.size)⟩
  have B0 : Hid (Below w.heap.size w w) := Below.refl _ _
  by_cases h40 : l.length ≤ 40
  · have TL : Hid (∀ V, Hid (Below w.heap.size w V) → Hid (Calls Tryd.prog 12 #[.slice p l.length cap] V fun e B => e = .returned (.bool (decide (fine l))) ∧ Hid (Below w.heap.size w B)) ∧ Hid (Calls Tryd.prog 13 #[.slice p l.length cap] V fun e B => e = .returned (.bool (decide (fine l))) ∧ Hid (Below w.heap.size w B))) := fun V h =>
      ⟨(fine12 p l cap V (hp.below h.out)).mono fun e B ⟨he, hB⟩ => ⟨he, h.out.trans (hB.out.mono h.out.size)⟩, (reffine13 p l cap V (hp.below h.out) (by omega)).mono fun e B ⟨he, hB⟩ => ⟨he, h.out.trans (hB.out.mono h.out.size)⟩⟩
    have T14 : Hid (∀ V, Hid (Below w.heap.size w V) → Calls Tryd.prog 14 #[.int .i64 kind] V fun e B => e = .returned (.string (name kind)) ∧ B = V) := fun V h => name14 kind (hN.below hN.1 h.out)
    have N : Hid (∀ j, j < l.length → ∃ (b o : Nat) (x : Opn), p = some ⟨b, o, none⟩ ∧ Hid (∀ V, Below w.heap.size w V → Cf b (o + j * 5) x V)) := fun j hj => by
      obtain ⟨b, o, hp', hc⟩ := nowE hp j hj
      exact ⟨b, o, l[j], hp', hc⟩
    clear hp hN
    obtain ⟨q, hq⟩ : ∃ q, decide (fine l) = q := ⟨_, rfl⟩
    rw [hq] at TL
    clear hq
    have hqq : (q == q) = true := by simp
    generalize l.length = n at *
    have z1 : ¬ (40 : Int) < (n : Int) := by omega
    go_enter Tryd.func3, Tryd.ntmps3
    go_wp2_with fail
    go_loopw [5] (fun i wr => ∃ j : Nat, j ≤ n ∧ i = .int .i64 j ∧ Hid (Below w.heap.size w wr)) (fun i _ => n - (intOf i).toNat)
    case atStart => exact ⟨0, by omega, rfl, B0⟩
    case round =>
      obtain ⟨j, hj, rfl, hB⟩ := hrel
      clear B0
      obtain ⟨wr1, rfl⟩ : ∃ wr1, wr1 = wr := ⟨_, rfl⟩
      by_cases hlt : j < n
      · obtain ⟨b, o, x, rfl, hC⟩ := N.out j hlt
        have hjn : (j : Int) < (n : Int) := by omega
        have hj0 : (0 : Int) ≤ (j : Int) := by omega
        obtain ⟨c0, c1, c2, c3, c4⟩ := hC.out _ hB.out
        clear N TL T14 T6
        go_upto_region 6 with fail
        go_cut [6] (fun u wx => u = .bool (writes x.k) ∧ wx = wr1)
        case first =>
          obtain ⟨k, a1, a2, a3, a4⟩ := x
          simp only at c0 c1 c2 c3 c4
          by_cases h2 : k = 2
          · subst h2
            go_wp2_with fail
            go_meet
            exact ⟨rfl, rfl⟩
          · by_cases h3 : k = 3
            · subst h3
              go_wp2_with fail
              go_meet
              exact ⟨rfl, rfl⟩
            · by_cases h5 : k = 5
              · subst h5
                go_wp2_with fail
                go_meet
                exact ⟨rfl, rfl⟩
              · by_cases h6 : k = 6
                · subst h6
                  go_wp2_with fail
                  go_meet
                  exact ⟨rfl, rfl⟩
                · have e : Hid (writes k = false) := decide_eq_false (by omega)
                  have g2 : (k == 2) = false := by simpa using h2
                  have g3 : (k == 3) = false := by simpa using h3
                  have g5 : (k == 5) = false := by simpa using h5
                  have g6 : (k == 6) = false := by simpa using h6
                  go_wp2_with fail
                  go_meet
                  exact ⟨by rw [e.out], rfl⟩
        case rest =>
          obtain ⟨rfl, rfl⟩ := hcut
          have h0 : Hid (Below w.heap.size w wc.drew) := hB.out.trans ((below_drewN wc 1).mono hB.out.size)
          have K0 : Hid (Cf b (o + j * 5) x wc.drew) := hC.out _ h0.out
          have up : Hid (∀ V B, Hid (Below w.heap.size w V) → Hid (Below V.heap.size V B) → Cf b (o + j * 5) x B ∧ Hid (Below w.heap.size w B)) := fun V B h k =>
            ⟨hC.out _ (h.out.trans (k.out.mono h.out.size)), h.out.trans (k.out.mono h.out.size)⟩
          obtain ⟨r, hr⟩ : ∃ r, decide (right x) = r := ⟨_, rfl⟩
          have T7 : Hid (∀ V, Hid (Below w.heap.size w V) → Calls Tryd.prog 7 #[opv x] V fun e B => e = .returned (.bool r) ∧ Cf b (o + j * 5) x B ∧ Hid (Below w.heap.size w B)) := fun V h => (right7 x V).mono fun e B ⟨he, hk⟩ => ⟨by rw [he, hr], up.out V B h hk⟩
          have T8 : Hid (∀ V, Hid (Below w.heap.size w V) → Calls Tryd.prog 8 #[opv x] V fun e B => e = .returned (.bool r) ∧ Cf b (o + j * 5) x B ∧ Hid (Below w.heap.size w B)) := fun V h => (refright8 x V).mono fun e B ⟨he, hk⟩ => ⟨by rw [he, hr], up.out V B h hk⟩
          have T9 : Hid (∀ V, Hid (Below w.heap.size w V) → Calls Tryd.prog 9 #[opv x] V fun e B => e = .returned (opv (bare x)) ∧ Cf b (o + j * 5) x B ∧ Hid (Below w.heap.size w B)) := fun V h => (bare9 x V).mono fun e B ⟨he, hk⟩ => ⟨he, up.out V B h hk⟩
          have T10 : Hid (∀ V, Hid (Below w.heap.size w V) → Calls Tryd.prog 10 #[opv x] V fun e B => e = .returned (opv (bare x)) ∧ Cf b (o + j * 5) x B ∧ Hid (Below w.heap.size w B)) := fun V h => (refbare10 x V).mono fun e B ⟨he, hk⟩ => ⟨he, up.out V B h hk⟩
          have T11 : Hid (∀ V, Hid (Below w.heap.size w V) → Calls Tryd.prog 11 #[opv x] V fun e B => e = .returned (.bool (writes x.k)) ∧ Cf b (o + j * 5) x B ∧ Hid (Below w.heap.size w B)) := fun V h => (writes11 x V).mono fun e B ⟨he, hk⟩ => ⟨he, up.out V B h hk⟩
          have T7b : Hid (∀ V, Hid (Below w.heap.size w V) → Calls Tryd.prog 7 #[opv (bare x)] V fun e B => e = .returned (.bool true) ∧ Cf b (o + j * 5) x B ∧ Hid (Below w.heap.size w B)) := fun V h => (right7 (bare x) V).mono fun e B ⟨he, hk⟩ => ⟨by rw [he, decide_eq_true (bare_right x)], up.out V B h hk⟩
          have hne := ne5 (bare x) (bare x)
          rw [decide_eq_true (show bare x = bare x from rfl)] at hne
          have hrr : (r != r) = false := by simp
          generalize writes x.k = z at *
          have hzz : (z != z) = false := by simp
          clear hC up hr c0 c1 c2 c3 c4 hB hqq
          generalize bare x = y at *
          obtain ⟨x0, x1, x2, x3, x4⟩ := x
          obtain ⟨y0, y1, y2, y3, y4⟩ := y
          go_wp2_with fail
          go_region_held3 (Cf b (o + j * 5) ⟨x0, x1, x2, x3, x4⟩) (first | exact K0.out | assumption) (first
            | (go_at_call 7; refine (T7b.out _ h6).mono ?_; rintro e v7 ⟨rfl, k7, h7⟩)
            | (go_at_call 9; refine (T9.out _ h5).mono ?_; rintro e v6 ⟨rfl, k6, h6⟩)
            | (go_at_call 11; refine (T11.out _ h4).mono ?_; rintro e v5 ⟨rfl, k5, h5⟩)
            | (go_at_call 10; refine (T10.out _ h3).mono ?_; rintro e v4 ⟨rfl, k4, h4⟩)
            | (go_at_call 9; refine (T9.out _ h2).mono ?_; rintro e v3 ⟨rfl, k3, h3⟩)
            | (go_at_call 8; refine (T8.out _ h1).mono ?_; rintro e v2 ⟨rfl, k2, h2⟩)
            | (go_at_call 7; refine (T7.out _ h0).mono ?_; rintro e v1 ⟨rfl, k1, h1⟩))
          clear T7 T8 T9 T10 T11 T7b
          go_wp2
          go_roundw
          case rel => exact ⟨j + 1, by omega, by simp, h7⟩
          case measure => simp [intOf]; omega
      · obtain rfl : j = n := by omega
        clear N
        by_cases hk : 0 ≤ kind ∧ kind < 8
        · obtain ⟨i, rfl⟩ := Int.eq_ofNat_of_zero_le hk.1
          have hi : i < 8 := by omega
          have hnc := nam_cell wr1 i hi
          have e : name (i : Int) = nam.getD i ⟨#[]⟩ := by unfold name; rw [if_pos hk, Int.toNat_natCast]
          rw [e] at T14
          have y1 : decide ((0 : Int) ≤ (i : Int)) = true := by simp
          have y2 : decide ((i : Int) ≤ 7) = true := by simp; omega
          have hB2 : Hid (Below w.heap.size w (wr1.alloc (.cells #[.string ⟨#[110, 111, 110, 101]⟩, .string ⟨#[103, 101, 116]⟩, .string ⟨#[115, 101, 116]⟩, .string ⟨#[100, 101, 108]⟩, .string ⟨#[119, 97, 105, 116]⟩, .string ⟨#[99, 108, 101, 97, 114]⟩, .string ⟨#[99, 108, 111, 115, 101]⟩, .string ⟨#[108, 105, 109, 105, 116]⟩] 9))) := hB.out.trans (((Below.refl _ _).alloc (Nat.le_refl _) _).mono hB.out.size)
          have hi0 : (0 : Int) ≤ (i : Int) := by omega
          have hi8 : (i : Int) < 8 := by omega
          generalize nam.getD i ⟨#[]⟩ = st at *
          have T12 := Lib.hid (TL.out _ hB2).1.out
          clear e hk
          go_wp2_with fail
          refine T12.out.mono ?_
          rintro e w2 ⟨rfl, h2⟩
          have T13 := Lib.hid (TL.out _ h2).2.out
          clear T12
          go_wp2_with fail
          refine T13.out.mono ?_
          rintro e w3 ⟨rfl, h3⟩
          have T14' := Lib.hid (T14.out _ h3)
          clear T13 T14
          go_wp2_with fail
          refine T14'.out.mono ?_
          rintro e w4 ⟨rfl, rfl⟩
          have T6' := Lib.hid (T6.out _ h3)
          clear T14' T6 TL
          go_wp2_with fail
          refine T6'.out.mono ?_
          rintro e w5 ⟨rfl, h5⟩
          clear T6'
          go_wp2
          go_ret
          exact ⟨rfl, h5.out⟩
        · have e : name kind = ⟨#[]⟩ := by unfold name; rw [if_neg hk]
          rw [e] at T14
          have T12 := Lib.hid (TL.out _ hB).1.out
          have Z : (decide (0 ≤ kind) = true ∧ decide (kind ≤ 7) = false) ∨ decide (0 ≤ kind) = false := by
            by_cases h0 : 0 ≤ kind
            · exact .inl ⟨by simpa using h0, by simp; omega⟩
            · exact .inr (by simpa using h0)
          clear e hk
          rcases Z with ⟨y1, y2⟩ | y1
          all_goals (
            go_wp2_with fail
            refine T12.out.mono ?_
            rintro e w2 ⟨rfl, h2⟩
            have T13 := Lib.hid (TL.out _ h2).2.out
            clear T12
            go_wp2_with fail
            refine T13.out.mono ?_
            rintro e w3 ⟨rfl, h3⟩
            have T14' := Lib.hid (T14.out _ h3)
            clear T13 T14
            go_wp2_with fail
            refine T14'.out.mono ?_
            rintro e w4 ⟨rfl, rfl⟩
            have T6' := Lib.hid (T6.out _ h3)
            clear T14' T6 TL
            go_wp2_with fail
            refine T6'.out.mono ?_
            rintro e w5 ⟨rfl, h5⟩
            clear T6'
            go_wp2
            go_ret
            exact ⟨rfl, h5.out⟩)
  · generalize l.length = n at *
    have z1 : (40 : Int) < (n : Int) := by omega
    have T := Lib.hid (T6.out _ B0)
    clear hp hN T6
    go_enter Tryd.func3, Tryd.ntmps3
    go_wp2_with fail
    refine T.out.mono ?_
    rintro e w1 ⟨rfl, h1⟩
    go_wp2
    go_ret
    exact ⟨rfl, h1.out⟩
end Go.Proofs.YtfpikafnakeijaaDoor
