/-
  Scripts as they lie; Right of package script by its contract, for every script.
-/
import Derived.Test.YtfhcgildokdppaaId
namespace Go.Proofs.Ytfhcgildokdppaa
open Go.RowKit Go.Shelf tp
/-- where a script's slices lie. -/
structure Ad where
  p : Option Addr
  pc : Nat
  k : Option Addr
  kc : Nat
  d : Option Addr
  dc : Nat
/-- the slices read as the script's. -/
structure Sc (w : World) (s : Scr) (x : Ad) : Prop where
  ps : Lp w x.p s.ps
  ks : La eI w x.k s.ks
  ds : La eI w x.d s.ds
theorem Sc.below {w w' : World} {s : Scr} {x : Ad} (h : Sc w s x) (hb : Below w.heap.size w w') : Sc w' s x := ⟨h.ps.below hb, h.ks.below hb, h.ds.below hb⟩
/-- a script as a value, and its eight cells. -/
abbrev svl (c : Cfg) (p : Option Addr) (n pc : Nat) (k : Option Addr) (m kc : Nat) (d : Option Addr) (l dc : Nat) : Value := .agg #[.int .i64 c.mx, .int .i64 c.bu, .int .i64 c.co, .int .i64 c.ba, .int .i64 c.bi, .slice p n pc, .slice k m kc, .slice d l dc]
abbrev scl (c : Cfg) (p : Option Addr) (n pc : Nat) (k : Option Addr) (m kc : Nat) (d : Option Addr) (l dc : Nat) : Array Value := #[.int .i64 c.mx, .int .i64 c.bu, .int .i64 c.co, .int .i64 c.ba, .int .i64 c.bi, .slice p n pc, .slice k m kc, .slice d l dc]
abbrev sv (s : Scr) (x : Ad) : Value := svl s.c x.p s.ps.length x.pc x.k s.ks.length x.kc x.d s.ds.length x.dc
abbrev scs (s : Scr) (x : Ad) : Array Value := scl s.c x.p s.ps.length x.pc x.k s.ks.length x.kc x.d s.ds.length x.dc
/-- the three slices' cells, and all eight. -/
abbrev S3 (b : Nat) (p : Option Addr) (n pc : Nat) (k : Option Addr) (m kc : Nat) (d : Option Addr) (l dc : Nat) (V : World) : Prop := V.cell? ⟨b, 5, none⟩ = some (.slice p n pc) ∧ V.cell? ⟨b, 6, none⟩ = some (.slice k m kc) ∧ V.cell? ⟨b, 7, none⟩ = some (.slice d l dc)
theorem cells3 {W : World} {b : Nat} {c : Cfg} {p : Option Addr} {n pc : Nat} {k : Option Addr} {m kc : Nat} {d : Option Addr} {l dc : Nat} (h : W.heap[b]? = some (.cells (scl c p n pc k m kc d l dc) 27 (0, 0))) : S3 b p n pc k m kc d l dc W := ⟨cell_of h 5, cell_of h 6, cell_of h 7⟩
theorem cellsS {W : World} {b : Nat} {c : Cfg} {p : Option Addr} {n pc : Nat} {k : Option Addr} {m kc : Nat} {d : Option Addr} {l dc : Nat} (h : W.heap[b]? = some (.cells (scl c p n pc k m kc d l dc) 27 (0, 0))) : Cc b c W := ⟨cell_of h 0, cell_of h 1, cell_of h 2, cell_of h 3, cell_of h 4⟩
theorem right_dec (s : Scr) : decide (rightS s) = (decide (near s.c = s.c) && (decide (s.ps.length ≤ 6 ∧ fines s.ps) && (decide (s.ks.length ≤ 4096 ∧ picks s.ks) && decide (s.ds.length ≤ 255)))) := by
  rw [Bool.eq_iff_iff]
  simp only [decide_eq_true_eq, Bool.and_eq_true]
  exact Iff.rfl
set_option maxHeartbeats 2000000 in
theorem right10 (s : Scr) (x : Ad) (w : World) (h : Sc w s x) : Calls Try.prog 10 #[sv s x] w fun e B => e = .returned (.bool (decide (rightS s))) ∧ Hid (Below w.heap.size w B) := by
  obtain ⟨N, hN⟩ : ∃ N, w.heap.size = N := ⟨_, rfl⟩
  rw [hN]
  obtain ⟨W1, hW1⟩ : ∃ W1, w.alloc (.cells (scs s x) 27) = W1 := ⟨_, rfl⟩
  have hb : Below N w W1 := by rw [← hW1, ← hN]; exact (Below.refl _ _).alloc (Nat.le_refl _) _
  have hO : W1.heap[N]? = some (.cells (scs s x) 27 (0, 0)) := by rw [← hW1]; exact heap_next hN.symm _
  have hs : W1.heap.size = N + 1 := by rw [← hW1, ← hN]; simp
  have C3 : ∀ V, Below W1.heap.size W1 V → S3 N x.p s.ps.length x.pc x.k s.ks.length x.kc x.d s.ds.length x.dc V := fun V hV => cells3 ((hV.block N (by omega)).trans hO)
  have LA : ∀ V, Below W1.heap.size W1 V → Below w.heap.size w V := fun V hV => (hN ▸ hb).trans (hV.mono (by omega))
  have T13 : Hid (Calls Try.prog 13 #[cv s.c] W1 fun e B => e = .returned (.bool (decide (near s.c = s.c))) ∧ S3 N x.p s.ps.length x.pc x.k s.ks.length x.kc x.d s.ds.length x.dc B ∧ Hid (Below W1.heap.size W1 B)) := (config13 s.c W1).mono fun e B ⟨he, hB⟩ => ⟨he, C3 B hB.out, hB⟩
  have T23 : Hid (∀ V, Hid (Below W1.heap.size W1 V) → Calls Try.prog 23 #[.int .i64 6, .slice x.p s.ps.length x.pc, .func (.func 24) #[] #[]] V fun e B => e = .returned (.bool (decide (s.ps.length ≤ 6 ∧ fines s.ps))) ∧ S3 N x.p s.ps.length x.pc x.k s.ks.length x.kc x.d s.ds.length x.dc B ∧ Hid (Below W1.heap.size W1 B)) := fun V hV => (most23 6 (by decide) x.p s.ps x.pc V (h.ps.below (LA V hV.out))).mono fun e B ⟨he, hB⟩ => by
    have := hV.out.trans (hB.out.mono hV.out.size)
    exact ⟨he, C3 B this, this⟩
  have T25 : Hid (∀ V, Hid (Below W1.heap.size W1 V) → Calls Try.prog 25 #[.int .i64 4096, .slice x.k s.ks.length x.kc, .func (.func 26) #[] #[]] V fun e B => e = .returned (.bool (decide (s.ks.length ≤ 4096 ∧ picks s.ks))) ∧ S3 N x.p s.ps.length x.pc x.k s.ks.length x.kc x.d s.ds.length x.dc B ∧ Hid (Below W1.heap.size W1 B)) := fun V hV => (most25 4096 (by decide) x.k s.ks x.kc V (h.ks.below (LA V hV.out))).mono fun e B ⟨he, hB⟩ => by
    have := hV.out.trans (hB.out.mono hV.out.size)
    exact ⟨he, C3 B this, this⟩
  have F : Hid (∀ V, Hid (Below W1.heap.size W1 V) → Hid (Below N w V)) := fun V hV => hN ▸ LA V hV.out
  have C1 : Cc N s.c W1 := cellsS hO
  have e4 : decide (s.ds.length ≤ 255) = decide ((s.ds.length : Int) ≤ 255) := by
    by_cases h4 : s.ds.length ≤ 255
    · rw [decide_eq_true h4, decide_eq_true (by omega)]
    · rw [decide_eq_false h4, decide_eq_false (by omega)]
  rw [right_dec, e4]
  clear h hb hO C3 LA e4
  generalize decide (near s.c = s.c) = q1 at *
  generalize decide (s.ps.length ≤ 6 ∧ fines s.ps) = q2 at *
  generalize decide (s.ks.length ≤ 4096 ∧ picks s.ks) = q3 at *
  obtain ⟨⟨mx, bu, co, ba, bi⟩, ps, ks, ds⟩ := s
  obtain ⟨p, pc, k, kc, d, dc⟩ := x
  simp only at *
  generalize ps.length = n at *
  generalize ks.length = m at *
  generalize ds.length = l at *
  cases q1
  · clear T23 T25
    go_enter Try.func10, Try.ntmps10
    go_wp2_with (go_at_call 13; refine T13.out.mono ?_; rintro e w1 ⟨rfl, ⟨c5, c6, c7⟩, h1⟩)
    go_ret
    exact ⟨rfl, F.out _ h1⟩
  · cases q2
    · clear T25
      go_enter Try.func10, Try.ntmps10
      go_wp2_with (first
        | (go_at_call 23; refine (T23.out _ h1).mono ?_; rintro e w2 ⟨rfl, ⟨d5, d6, d7⟩, h2⟩)
        | (go_at_call 13; refine T13.out.mono ?_; rintro e w1 ⟨rfl, ⟨c5, c6, c7⟩, h1⟩))
      go_ret
      exact ⟨rfl, F.out _ h2⟩
    · cases q3
      all_goals (
        go_enter Try.func10, Try.ntmps10
        go_wp2_with (first
          | (go_at_call 25; refine (T25.out _ h2).mono ?_; rintro e w3 ⟨rfl, ⟨e5, e6, e7⟩, h3⟩)
          | (go_at_call 23; refine (T23.out _ h1).mono ?_; rintro e w2 ⟨rfl, ⟨d5, d6, d7⟩, h2⟩)
          | (go_at_call 13; refine T13.out.mono ?_; rintro e w1 ⟨rfl, ⟨c5, c6, c7⟩, h1⟩))
        go_ret
        exact ⟨by first | rfl | simp, F.out _ h3⟩)
end Go.Proofs.Ytfhcgildokdppaa
