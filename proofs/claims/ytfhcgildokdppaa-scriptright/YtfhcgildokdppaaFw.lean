/-
  Calls of package script, and the laws' few, by their contracts, for every script (of at most a million programs and calls).
-/
import Derived.Test.YtfhcgildokdppaaRi
namespace Go.Proofs.Ytfhcgildokdppaa
open Go.RowKit Go.Shelf tp
/-- how many calls the first j programs have. -/
def cn (ps : List (List Opn)) (j : Nat) : Nat := ((ps.take j).map List.length).sum
theorem cn_next (ps : List (List Opn)) (j : Nat) (h : j < ps.length) : cn ps (j + 1) = cn ps j + ps[j].length := by
  unfold cn
  rw [List.take_succ_eq_append_getElem h, List.map_append, List.sum_append]
  simp
theorem cn_le (ps : List (List Opn)) (M : Nat) (h : ∀ l ∈ ps, l.length ≤ M) (j : Nat) (hj : j ≤ ps.length) : cn ps j ≤ j * M := by
  induction j with
  | zero => simp [cn]
  | succ j ih =>
    rw [cn_next ps j hj]
    have := ih (by omega)
    have := h _ (List.getElem_mem hj)
    rw [Nat.succ_mul]
    omega
/-- a script has few programs, picks and draws. -/
def few (s : Scr) : Prop := s.ps.length ≤ 9 ∧ (∀ l ∈ s.ps, l.length ≤ 30) ∧ s.ks.length ≤ 5000 ∧ s.ds.length ≤ 300
instance (s : Scr) : Decidable (few s) := inferInstanceAs (Decidable (_ ∧ _))
/-- a script's box: what the walks ask of it. -/
theorem one27 {w W1 : World} {N : Nat} {a : Array Value} (hN : w.heap.size = N) (h : w.alloc (.cells a 27) = W1) : W1.heap[N]? = some (.cells a 27 (0, 0)) ∧ Below N w W1 ∧ W1.heap.size = N + 1 := by
  subst hN
  rw [← h]
  exact ⟨heap_next rfl _, (Below.refl _ _).alloc (Nat.le_refl _) _, by simp⟩
set_option maxHeartbeats 1000000 in
theorem calls16 (s : Scr) (x : Ad) (w : World) (h : Sc w s x) (hn6 : s.ps.length ≤ 9) (hin : ∀ l ∈ s.ps, l.length ≤ 30) : Calls Try.prog 16 #[sv s x] w fun e B => e = .returned (.int .i64 (cn s.ps s.ps.length : Int)) ∧ Hid (Below w.heap.size w B) := by
  obtain ⟨N, hN⟩ : ∃ N, w.heap.size = N := ⟨_, rfl⟩
  rw [hN]
  obtain ⟨W1, hW1⟩ : ∃ W1, w.alloc (.cells (scs s x) 27) = W1 := ⟨_, rfl⟩
  obtain ⟨hO, hb, hs⟩ := one27 hN hW1
  obtain ⟨c5, c6, c7⟩ := cells3 hO
  have NP : Hid (∀ j, j < s.ps.length → ∃ (b o : Nat) (q : Option Addr) (m k y : Nat), x.p = some ⟨b, o, none⟩ ∧ W1.cell? ⟨b, o + j, none⟩ = some (.slice q m k) ∧ y = cn s.ps j ∧ y ≤ 270 ∧ m ≤ 30 ∧ Hid (cn s.ps (j + 1) = y + m)) := fun j hj => by
    obtain ⟨b, o, q, k, hp', hc⟩ := nowP h.ps j hj
    have := hc.out W1 (hN ▸ hb)
    have h3 := cn_le s.ps 30 hin j (by omega)
    exact ⟨b, o, q, _, k, _, hp', this.1, rfl, by omega, hin _ (List.getElem_mem hj), cn_next s.ps j hj⟩
  have F : Hid (Below N w W1) := hb
  clear h hin hO hb
  obtain ⟨⟨mx, bu, co, ba, bi⟩, ps, ks, ds⟩ := s
  obtain ⟨p, pc, k, kc, d, dc⟩ := x
  simp only at *
  obtain ⟨f, hf⟩ : ∃ f : Nat → Nat, ∀ j, cn ps j = f j := ⟨_, fun _ => rfl⟩
  have f0 : f 0 = 0 := by rw [← hf]; rfl
  simp only [hf] at *
  clear hf
  generalize ps.length = n at *
  generalize ks.length = m at *
  generalize ds.length = l at *
  go_enter Try.func16, Try.ntmps16
  go_wp2_with fail
  go_loopw [3, 9] (fun t i wr => ∃ j : Nat, j ≤ n ∧ i = .int .i64 j ∧ t = .int .i64 (f j : Int) ∧ wr = W1) (fun _ i _ => n - (intOf i).toNat)
  case atStart => exact ⟨0, by omega, rfl, by rw [f0]; rfl, by first | rfl | exact hW1⟩
  case round =>
    obtain ⟨j, hj, rfl, rfl, rfl⟩ := hrel
    by_cases hlt : j < n
    · obtain ⟨b, o, q, m2, k2, y, rfl, c0, hy, hy2, hm2, E⟩ := NP.out j hlt
      have hjn : (j : Int) < (n : Int) := by omega
      have hj0 : (0 : Int) ≤ (j : Int) := by omega
      rw [← hy]
      clear NP hy
      go_wp2
      go_roundw
      case rel => exact ⟨j + 1, by omega, by simp, by rw [E.out]; simp, by first | rfl | trivial⟩
      case measure => simp [intOf]; omega
    · obtain rfl : j = n := by omega
      clear NP
      go_wp2
      go_ret
      exact ⟨rfl, F⟩
set_option maxRecDepth 100000 in
set_option maxHeartbeats 4000000 in
theorem few7 (s : Scr) (x : Ad) (w : World) (h : Sc w s x) : Calls Try.prog 7 #[sv s x] w fun e B => e = .returned (.bool (decide (few s))) ∧ Hid (Below w.heap.size w B) := by
  obtain ⟨N, hN⟩ : ∃ N, w.heap.size = N := ⟨_, rfl⟩
  rw [hN]
  obtain ⟨W1, hW1⟩ : ∃ W1, w.alloc (.cells (scs s x) 27) = W1 := ⟨_, rfl⟩
  obtain ⟨hO, hb, hs⟩ := one27 hN hW1
  obtain ⟨c5, c6, c7⟩ := cells3 hO
  obtain ⟨g, hg⟩ : ∃ g, decide (few s) = g := ⟨_, rfl⟩
  rw [hg]
  have NP : Hid (∀ j, j < s.ps.length → ∃ (b o : Nat) (q : Option Addr) (m k : Nat), x.p = some ⟨b, o, none⟩ ∧ W1.cell? ⟨b, o + j, none⟩ = some (.slice q m k) ∧ Hid (∀ l : List Opn, s.ps[j]? = some l → m = l.length) ∧ (30 < m → Hid (g = false))) := fun j hj => by
    obtain ⟨b, o, q, k, hp', hc⟩ := nowP h.ps j hj
    have := hc.out W1 (hN ▸ hb)
    refine ⟨b, o, q, _, k, hp', this.1, fun l hl => ?_, fun h30 => ?_⟩
    · rw [List.getElem?_eq_getElem hj] at hl
      cases hl
      rfl
    · show g = false
      rw [← hg]
      exact decide_eq_false fun hf => by
        have := hf.2.1 _ (List.getElem_mem hj)
        omega
  have FIN : Hid (∀ j, (∀ j' l, j' < j → s.ps[j']? = some l → l.length ≤ 30) → (j = s.ps.length ∨ j = 10) → j ≤ s.ps.length → g = (decide ((s.ps.length : Int) ≤ 9) && (decide ((s.ks.length : Int) ≤ 5000) && decide ((s.ds.length : Int) ≤ 300)))) := fun j hR hj hjl => by
    rw [← hg, Bool.eq_iff_iff]
    simp only [decide_eq_true_eq, Bool.and_eq_true]
    constructor
    · rintro ⟨h1, _, h3, h4⟩
      omega
    · rintro ⟨h1, h3, h4⟩
      refine ⟨by omega, fun l hl => ?_, by omega, by omega⟩
      obtain ⟨j', hj'⟩ := List.getElem?_of_mem hl
      exact hR j' l (by have := (List.getElem?_eq_some_iff.1 hj').1; omega) hj'
  have HL : Hid (∀ j (y : List Opn), s.ps[j]? = some y → j < s.ps.length) := fun j y h => (List.getElem?_eq_some_iff.1 h).1
  have F : Hid (Below N w W1) := hb
  clear h hO hb hg
  obtain ⟨⟨mx, bu, co, ba, bi⟩, ps, ks, ds⟩ := s
  obtain ⟨p, pc, k, kc, d, dc⟩ := x
  simp only at *
  generalize ps.length = n at *
  generalize ks.length = m at *
  generalize ds.length = l at *
  go_enter Try.func7, Try.ntmps7
  go_wp2_with fail
  go_loopw [3] (fun i wr => ∃ j : Nat, j ≤ n ∧ j ≤ 10 ∧ i = .int .i64 j ∧ Hid (∀ j' l, j' < j → ps[j']? = some l → l.length ≤ 30) ∧ wr = W1) (fun i _ => n - (intOf i).toNat)
  case atStart => exact ⟨0, by omega, by omega, rfl, fun j' l h => absurd h (Nat.not_lt_zero _), by first | rfl | exact hW1⟩
  case round =>
    obtain ⟨j, hj, hj10, rfl, hR, rfl⟩ := hrel
    by_cases hlt : j < n
    · have y1 : decide ((j : Int) < (n : Int)) = true := by simp; omega
      by_cases h10 : j < 10
      · have y2 : decide ((j : Int) < 10) = true := by simp; omega
        obtain ⟨b, o, q, m2, k2, rfl, c0, hy, hf⟩ := NP.out j hlt
        have hjn : (j : Int) < (n : Int) := by omega
        have hj0 : (0 : Int) ≤ (j : Int) := by omega
        clear NP FIN
        by_cases h30 : 30 < m2
        · have G := hf h30
          have z : (30 : Int) < (m2 : Int) := by omega
          clear hf hy
          go_wp2
          go_ret
          exact ⟨by rw [G.out]; try rfl, F⟩
        · have z : ¬ (30 : Int) < (m2 : Int) := by omega
          have HR2 : Hid (∀ j' l, j' < j + 1 → ps[j']? = some l → l.length ≤ 30) := fun j' l hj' hl => by
            by_cases e : j' = j
            · subst e
              have := hy.out l hl
              omega
            · exact hR.out j' l (by omega) hl
          clear hf hy hR
          go_wp2
          go_roundw
          case rel => exact ⟨j + 1, by omega, by omega, by simp, HR2, by first | rfl | trivial⟩
          case measure => simp [intOf]; omega
      · obtain rfl : j = 10 := by omega
        have G := Lib.hid (FIN.out 10 hR.out (.inr rfl) (by omega))
        have z9 : decide ((n : Int) ≤ 9) = false := by simp; omega
        clear NP FIN hR
        go_wp2
        go_ret
        exact ⟨by rw [G.out, z9]; rfl, F⟩
    · obtain rfl : j = n := by omega
      have G := Lib.hid (FIN.out j hR.out (.inl rfl) (by omega))
      clear NP FIN hR
      obtain ⟨z1, hz1⟩ : ∃ z, decide ((j : Int) ≤ 9) = z := ⟨_, rfl⟩
      obtain ⟨z2, hz2⟩ : ∃ z, decide ((m : Int) ≤ 5000) = z := ⟨_, rfl⟩
      obtain ⟨z3, hz3⟩ : ∃ z, decide ((l : Int) ≤ 300) = z := ⟨_, rfl⟩
      rw [hz1, hz2, hz3] at G
      cases z1
      · go_wp2
        go_ret
        exact ⟨by rw [G.out]; try rfl, F⟩
      · cases z2
        · go_wp2
          go_ret
          exact ⟨by rw [G.out]; try rfl, F⟩
        · cases z3
          all_goals (
            go_wp2
            go_ret
            exact ⟨by rw [G.out]; try rfl, F⟩)
end Go.Proofs.Ytfhcgildokdppaa
