/-
  ScriptParses walked: of every bytes it returns true; what was in memory stays.
-/
import Derived.Test.YtfhcgildokdppaaKe
import Derived.Test.YtfhcgildokdppaaFw
import Derived.Test.YtfhcgildokdppaaSb
import Derived.Test.YtfhcgildokdppaaRj
namespace Go.Proofs.Ytfhcgildokdppaa
open Go.RowKit Go.Shelf tp
theorem right_few {s : Scr} (h : rightS s) : Few s ∧ ∀ l ∈ s.ps, l.length ≤ 1000000 := by
  have hin : ∀ l ∈ s.ps, l.length ≤ 1000000 := fun l hl => Nat.le_trans (h.2.1.2 l hl).1 (by decide)
  have h1 := h.2.1.1
  have h2 := h.2.2.1.1
  have h3 := h.2.2.2
  exact ⟨⟨by omega, hin, by omega, by omega⟩, hin⟩
/-- what the calls behind a parse answer, the script standing in a box. -/
abbrev After (w : World) (N : Nat) (W : World) (u : Value) (s : Scr) (q : Option Addr) (qc : Nat) (r : Option Addr) (rc : Nat) (t : Option Addr) (tc : Nat) : Prop :=
    S8 N s.c q s.ps.length qc r s.ks.length rc t s.ds.length tc W.drew ∧ Hid (Below W.heap.size W W.drew) ∧
    Hid (∀ V, Hid (Below W.heap.size W V) → Calls Try.prog 18 #[u] V fun e B => ∃ q' qc' r' rc' t' tc', e = .returned (svl s.c q' s.ps.length qc' r' s.ks.length rc' t' s.ds.length tc') ∧ S8 N s.c q s.ps.length qc r s.ks.length rc t s.ds.length tc B ∧ Hid (Sc B s ⟨q', qc', r', rc', t', tc'⟩) ∧ Hid (Below W.heap.size W B)) ∧
    Hid (∀ V q' qc' r' rc' t' tc', Hid (Below W.heap.size W V) → Hid (Sc V s ⟨q', qc', r', rc', t', tc'⟩) → Calls Try.prog 15 #[svl s.c q s.ps.length qc r s.ks.length rc t s.ds.length tc, svl s.c q' s.ps.length qc' r' s.ks.length rc' t' s.ds.length tc'] V fun e B => e = .returned (.bool true) ∧ S8 N s.c q s.ps.length qc r s.ks.length rc t s.ds.length tc B ∧ Hid (Below W.heap.size W B)) ∧
    Hid (∀ V, Hid (Below W.heap.size W V) → Calls Try.prog 11 #[svl s.c q s.ps.length qc r s.ks.length rc t s.ds.length tc] V fun e B => e = .returned (.bool true) ∧ S8 N s.c q s.ps.length qc r s.ks.length rc t s.ds.length tc B ∧ Hid (Below W.heap.size W B)) ∧
    Hid (∀ V, Hid (Below W.heap.size W V) → Calls Try.prog 10 #[svl s.c q s.ps.length qc r s.ks.length rc t s.ds.length tc] V fun e B => e = .returned (.bool true) ∧ S8 N s.c q s.ps.length qc r s.ks.length rc t s.ds.length tc B ∧ Hid (Below W.heap.size W B)) ∧
    Hid (∀ V, Hid (Below W.heap.size W V) → Calls Try.prog 8 #[] V fun e B => e = .returned (.bool true) ∧ S8 N s.c q s.ps.length qc r s.ks.length rc t s.ds.length tc B ∧ Hid (Below w.heap.size w B))
theorem after_parse {w w1 W : World} {p : Option Addr} {bs : List Nat} {c N : Nat} {s : Scr} {q r t : Option Addr} {qc rc tc : Nat} (hn : p = none → bs = [] ∧ c = 0) (hc : bs.length ≤ c) (hl : bs.length ≤ 1000000) (hs : Bs bs) (hr : La e8 w p bs) (hsv : parse (bs.take 16384) = s)
    (h : Sc w1 s ⟨q, qc, r, rc, t, tc⟩ ∧ Below w.heap.size w w1) (hN : w1.heap.size = N) (hW : w1.alloc (.cells (scl s.c q s.ps.length qc r s.ks.length rc t s.ds.length tc) 27) = W) :
    After w N W (.slice p bs.length c) s q qc r rc t tc := by
  have hR : rightS s := by rw [← hsv]; exact parse_right fun b hb => hs b (List.mem_of_mem_take hb)
  have hb1 : Below w1.heap.size w1 W := by rw [← hW]; exact (Below.refl _ _).alloc (Nat.le_refl _) _
  have hO : W.heap[N]? = some (.cells (scl s.c q s.ps.length qc r s.ks.length rc t s.ds.length tc) 27 (0, 0)) := by rw [← hW]; exact heap_next hN.symm _
  have hNW : N < W.heap.size := heap_lt hO
  have K8 : ∀ V, Below W.heap.size W V → S8 N s.c q s.ps.length qc r s.ks.length rc t s.ds.length tc V := fun V hV => cells8 ((hV.block N hNW).trans hO)
  have hwW : Below w.heap.size w W := h.2.trans (hb1.mono h.2.size)
  have hSW := h.1.below hb1
  have up : ∀ V B, Below W.heap.size W V → Below V.heap.size V B → Below W.heap.size W B := fun V B a b => a.trans (b.mono a.size)
  have hF := right_few hR
  have hd := below_drewN W 1
  refine ⟨K8 _ hd, hd, fun V hV => ?_, fun V q' qc' r' rc' t' tc' hV hy => ?_, fun V hV => ?_, fun V hV => ?_, fun V hV => ?_⟩
  · refine (refparse18 p bs c V hn hc hl hs (hr.below (hwW.trans (hV.out.mono hwW.size)))).mono ?_
    rintro e B ⟨y, he, hB⟩
    rw [hsv] at he hB
    have := up V B hV.out hB.out.2
    exact ⟨_, _, _, _, _, _, he, K8 _ this, hB.out.1, this⟩
  · have := refsame15 s s ⟨q, qc, r, rc, t, tc⟩ ⟨q', qc', r', rc', t', tc'⟩ V (hSW.below hV.out) hy.out hF.1
    rw [decide_eq_true rfl] at this
    exact this.mono fun e B ⟨he, hB⟩ => ⟨he, K8 _ (up V B hV.out hB.out), up V B hV.out hB.out⟩
  · have := refright11 s ⟨q, qc, r, rc, t, tc⟩ V (hSW.below hV.out) hF.2
    rw [decide_eq_true hR] at this
    exact this.mono fun e B ⟨he, hB⟩ => ⟨he, K8 _ (up V B hV.out hB.out), up V B hV.out hB.out⟩
  · have := right10 s ⟨q, qc, r, rc, t, tc⟩ V (hSW.below hV.out)
    rw [decide_eq_true hR] at this
    exact this.mono fun e B ⟨he, hB⟩ => ⟨he, K8 _ (up V B hV.out hB.out), up V B hV.out hB.out⟩
  · exact (awake8 V).mono fun e B ⟨he, hB⟩ => ⟨he, K8 _ (up V B hV.out hB.out), hwW.trans ((up V B hV.out hB.out).mono hwW.size)⟩
theorem parse_any {w : World} {p : Option Addr} {bs : List Nat} {c : Nat} {s : Scr} (hn : p = none → bs = [] ∧ c = 0) (hc : bs.length ≤ c) (hl : bs.length ≤ 1000000) (hs : Bs bs) (hr : La e8 w p bs) (hsv : parse (bs.take 16384) = s) :
    Calls Try.prog 17 #[.slice p bs.length c] w fun e B => ∃ q qc r rc t tc, e = .returned (svl s.c q s.ps.length qc r s.ks.length rc t s.ds.length tc) ∧ Hid (Sc B s ⟨q, qc, r, rc, t, tc⟩ ∧ Below w.heap.size w B) := by
  refine (parse17 p bs c w hn hc hl hs hr).mono ?_
  rintro e B ⟨x, he, hB⟩
  rw [hsv] at he hB
  exact ⟨_, _, _, _, _, _, he, hB⟩
set_option maxRecDepth 100000 in
set_option maxHeartbeats 2000000 in
theorem parses_walk (p : Option Addr) (bs : List Nat) (c : Nat) (w : World) (hn : p = none → bs = [] ∧ c = 0) (hc : bs.length ≤ c) (hs : Bs bs) (hr : La e8 w p bs) :
    Calls Try.prog 4 #[.slice p bs.length c] w fun e B => e = .returned (.bool true) ∧ Below w.heap.size w B := by
  have T8 := Lib.hid (awake8 w)
  by_cases h3 : bs.length ≤ 3000
  · obtain ⟨s, hsv⟩ : ∃ s, parse (bs.take 16384) = s := ⟨_, rfl⟩
    have T17 := Lib.hid (parse_any hn hc (by omega) hs hr hsv)
    have NX : Hid (∀ q qc r rc t tc w1 N W, Hid (Sc w1 s ⟨q, qc, r, rc, t, tc⟩ ∧ Below w.heap.size w w1) → w1.heap.size = N → w1.alloc (.cells (scl s.c q s.ps.length qc r s.ks.length rc t s.ds.length tc) 27) = W → After w N W (.slice p bs.length c) s q qc r rc t tc) := fun q qc r rc t tc w1 N W h hN hW => after_parse hn hc (by omega) hs hr hsv h.out hN hW
    have z1 : ¬ (3000 : Int) < (bs.length : Int) := by omega
    clear hn hc hs hr hsv T8
    unfold After at NX
    obtain ⟨⟨m0, m1, m2, m3, m4⟩, ps, ks, ds⟩ := s
    simp only at *
    generalize bs.length = len at *
    generalize ps.length = n at *
    generalize ks.length = m at *
    generalize ds.length = l at *
    go_enter Try.func4, Try.ntmps4
    go_wp2_with fail
    refine T17.out.mono ?_
    rintro e w1 ⟨q, qc, r, rc, t, tc, rfl, H1⟩
    obtain ⟨N, hN⟩ : ∃ N, w1.heap.size = N := ⟨_, rfl⟩
    obtain ⟨W, hW⟩ : ∃ W, w1.alloc (.cells #[.int .i64 m0, .int .i64 m1, .int .i64 m2, .int .i64 m3, .int .i64 m4, .slice q n qc, .slice r m rc, .slice t l tc] 27) = W := ⟨_, rfl⟩
    obtain ⟨K0, h0, T18, T15, T11, T10, T8⟩ := NX.out q qc r rc t tc w1 N W H1 hN hW
    clear T17 NX H1
    replace K0 := Lib.hid K0
    go_wp2_with fail
    go_region_held3 (S8 N ⟨m0, m1, m2, m3, m4⟩ q n qc r m rc t l tc) (first | exact K0.out | assumption) (first
      | (go_at_call 8; refine (T8.out _ h4).mono ?_; rintro e v5 ⟨rfl, k5, h5⟩)
      | (go_at_call 10; refine (T10.out _ h3).mono ?_; rintro e v4 ⟨rfl, k4, h4⟩)
      | (go_at_call 11; refine (T11.out _ h2).mono ?_; rintro e v3 ⟨rfl, k3, h3⟩)
      | (go_at_call 15; refine (T15.out _ _ _ _ _ _ _ h1 hy).mono ?_; rintro e v2 ⟨rfl, k2, h2⟩)
      | (go_at_call 18; refine (T18.out _ h0).mono ?_; rintro e v1 ⟨q', qc', r', rc', t', tc', rfl, k1, hy, h1⟩))
    go_wp2
    go_ret
    exact ⟨rfl, h5.out⟩
  · have z1 : (3000 : Int) < (bs.length : Int) := by omega
    clear hn hc hs hr
    generalize bs.length = n at *
    go_enter Try.func4, Try.ntmps4
    go_wp2_with fail
    refine T8.out.mono ?_
    rintro e w1 ⟨rfl, h1⟩
    go_wp2
    go_ret
    exact ⟨rfl, h1.out⟩
end Go.Proofs.Ytfhcgildokdppaa
