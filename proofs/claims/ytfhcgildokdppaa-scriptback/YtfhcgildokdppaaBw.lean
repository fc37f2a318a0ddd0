/-
  ScriptBack walked: of every script it returns true; what was in memory stays.
-/
import Derived.Test.YtfhcgildokdppaaPw
import Derived.Test.YtfhcgildokdppaaBr
import Derived.Test.YtfhcgildokdppaaTpRs
namespace Go.Proofs.Ytfhcgildokdppaa
open Go.RowKit Go.Shelf tp
/-- the box, and two slices of bytes that read as the same string. -/
abbrev Sy (b : Nat) (c : Cfg) (p : Option Addr) (n pc : Nat) (k : Option Addr) (m kc : Nat) (d : Option Addr) (l dc : Nat) (v : Option Addr) (i vc : Nat) (u : Option Addr) (j uc : Nat) (st : ByteArray) (V : World) : Prop :=
  S8 b c p n pc k m kc d l dc V ∧ (convert 35 9 (.slice v i vc)).run Try.prog V = .ok (.string st) V ∧ (convert 35 9 (.slice u j uc)).run Try.prog V = .ok (.string st) V
/-- bytes of a call's own, read as they are. -/
def Rb (v : Option Addr) (k c : Nat) (all : List Nat) (V : World) : Prop := k = all.length ∧ k ≤ c ∧ (v = none → all = [] ∧ c = 0) ∧ La e8 V v all
theorem Rb.of {w B : World} {v : Option Addr} {k c : Nat} {all : List Nat} (h : Pb w v k c all B) : Rb v k c all B := by
  obtain ⟨rfl, hC⟩ := h
  obtain ⟨q, c', e, g1, g2, g3, _⟩ := own_la hC.1
  injection e with e1 _ e2
  subst e1 e2
  exact ⟨rfl, g1, g3, g2⟩
theorem Rb.below {V B : World} {v : Option Addr} {k c : Nat} {all : List Nat} (h : Rb v k c all V) (hb : Below V.heap.size V B) : Rb v k c all B := ⟨h.1, h.2.1, h.2.2.1, h.2.2.2.below hb⟩
theorem Rb.conv {V : World} {v : Option Addr} {k c : Nat} {all : List Nat} (h : Rb v k c all V) : (convert 35 9 (.slice v k c)).run Try.prog V = .ok (.string (str all)) V := by
  obtain ⟨rfl, _, _, hl⟩ := h
  exact string_of c hl
set_option maxRecDepth 100000 in
set_option maxHeartbeats 4000000 in
theorem back_walk (s : Scr) (x : Ad) (w : World) (h : Sc w s x) (ho : s.ok) : Calls Try.prog 5 #[sv s x] w fun e B => e = .returned (.bool true) ∧ Below w.heap.size w B := by
  obtain ⟨N, hN⟩ : ∃ N, w.heap.size = N := ⟨_, rfl⟩
  change Calls Try.prog 5 #[svl s.c x.p s.ps.length x.pc x.k s.ks.length x.kc x.d s.ds.length x.dc] w _
  obtain ⟨V0, hV0⟩ : ∃ V0, w.alloc (.cells (scl s.c x.p s.ps.length x.pc x.k s.ks.length x.kc x.d s.ds.length x.dc) 27) = V0 := ⟨_, rfl⟩
  have hb : Below w.heap.size w V0 := by rw [← hV0]; exact (Below.refl _ _).alloc (Nat.le_refl _) _
  have hO : V0.heap[N]? = some (.cells (scl s.c x.p s.ps.length x.pc x.k s.ks.length x.kc x.d s.ds.length x.dc) 27 (0, 0)) := by rw [← hV0]; exact heap_next hN.symm _
  have hNW : N < V0.heap.size := heap_lt hO
  have K8 : ∀ V, Below V0.heap.size V0 V → S8 N s.c x.p s.ps.length x.pc x.k s.ks.length x.kc x.d s.ds.length x.dc V := fun V hV => cells8 ((hV.block N hNW).trans hO)
  have hS := h.below hb
  have up : ∀ V B, Below V0.heap.size V0 V → Below V.heap.size V B → Below V0.heap.size V0 B := fun V B a b => a.trans (b.mono a.size)
  have B0 : Hid (Below V0.heap.size V0 V0) := Below.refl _ _
  have C8 : Hid (S8 N s.c x.p s.ps.length x.pc x.k s.ks.length x.kc x.d s.ds.length x.dc V0) := K8 V0 B0.out
  have T8 : Hid (∀ V, Hid (Below V0.heap.size V0 V) → Calls Try.prog 8 #[] V fun e B => e = .returned (.bool true) ∧ Hid (Below w.heap.size w B)) := fun V hV => (awake8 V).mono fun e B ⟨he, hB⟩ => ⟨he, hb.trans ((up V B hV.out hB.out).mono hb.size)⟩
  have T7 : Hid (Calls Try.prog 7 #[svl s.c x.p s.ps.length x.pc x.k s.ks.length x.kc x.d s.ds.length x.dc] V0 fun e B => e = .returned (.bool (decide (few s))) ∧ S8 N s.c x.p s.ps.length x.pc x.k s.ks.length x.kc x.d s.ds.length x.dc B ∧ Hid (Below V0.heap.size V0 B)) := (few7 s x V0 hS).mono fun e B ⟨he, hB⟩ => ⟨he, K8 _ hB.out, hB⟩
  by_cases hf : few s
  · rw [decide_eq_true hf] at T7
    have hin : ∀ l ∈ s.ps, l.length ≤ 1000000 := fun l hl => Nat.le_trans (hf.2.1 l hl) (by decide)
    have T11 : Hid (∀ V, Hid (Below V0.heap.size V0 V) → Calls Try.prog 11 #[svl s.c x.p s.ps.length x.pc x.k s.ks.length x.kc x.d s.ds.length x.dc] V fun e B => e = .returned (.bool (decide (rightS s))) ∧ S8 N s.c x.p s.ps.length x.pc x.k s.ks.length x.kc x.d s.ds.length x.dc B ∧ Hid (Below V.heap.size V B)) := fun V hV => (refright11 s x V (hS.below hV.out) hin).mono fun e B ⟨he, hB⟩ => ⟨he, K8 _ (up V B hV.out hB.out), hB⟩
    have UP : Hid (∀ V B, Hid (Below V0.heap.size V0 V) → Hid (Below V.heap.size V B) → Hid (Below V0.heap.size V0 B)) := fun V B a b => up V B a.out b.out
    by_cases hR : rightS s
    · rw [decide_eq_true hR] at T11
      have hlen := byS_len hR
      obtain ⟨all, hall⟩ : ∃ all, byS s = all := ⟨_, rfl⟩
      have hpar : parse (all.take 16384) = s := by
        rw [List.take_of_length_le (by rw [← hall]; omega), ← hall]
        exact parse_by hR ho
      have hbs : Bs all := hall ▸ byS_bs hR
      have T19 : Hid (∀ V, Hid (Below V0.heap.size V0 V) → Calls Try.prog 19 #[svl s.c x.p s.ps.length x.pc x.k s.ks.length x.kc x.d s.ds.length x.dc] V fun e B => ∃ v k c, e = .returned (.tuple #[.slice v k c, .int .i64 0]) ∧ S8 N s.c x.p s.ps.length x.pc x.k s.ks.length x.kc x.d s.ds.length x.dc B ∧ Hid (Rb v k c all B) ∧ Hid (Below V0.heap.size V0 B)) := fun V hV => by
        refine (bytes19 s x V (hS.below hV.out) hR ho).mono ?_
        rintro e B ⟨v, k, c, he, hB⟩
        have := up V B hV.out hB.out.2.2
        rw [hall] at hB
        exact ⟨v, k, c, he, K8 _ this, Rb.of hB.out, this⟩
      have T20 : Hid (∀ V, Hid (Below V0.heap.size V0 V) → Calls Try.prog 20 #[svl s.c x.p s.ps.length x.pc x.k s.ks.length x.kc x.d s.ds.length x.dc] V fun e B => ∃ v k c, e = .returned (.slice v k c) ∧ ¬ (16384 : Int) < (k : Int) ∧ Hid (Rb v k c all B) ∧ Hid (Below V.heap.size V B)) := fun V hV => by
        refine (refbytes20 s x V (hS.below hV.out) hR ho).mono ?_
        rintro e B ⟨v, k, c, he, hB⟩
        rw [hall] at hB hlen
        have hk := hB.out.1
        exact ⟨v, k, c, he, by omega, Rb.of hB.out, hB.out.2.2⟩
      have BK : Hid (∀ v i vc u1 u j uc u2, Hid (Rb v i vc all u1) → Hid (Below V0.heap.size V0 u1) → Hid (Below u1.heap.size u1 u2) → Hid (Rb u j uc all u2) →
          Hid (Sy N s.c x.p s.ps.length x.pc x.k s.ks.length x.kc x.d s.ds.length x.dc v i vc u j uc (str all) u2.drew) ∧ Hid (Below u2.heap.size u2 u2.drew) ∧
          Hid (∀ V, Hid (Below u2.heap.size u2 V) → Calls Try.prog 17 #[.slice v i vc] V fun e B => ∃ q qc r rc t tc, e = .returned (svl s.c q s.ps.length qc r s.ks.length rc t s.ds.length tc) ∧ Sy N s.c x.p s.ps.length x.pc x.k s.ks.length x.kc x.d s.ds.length x.dc v i vc u j uc (str all) B ∧ Hid (Sc B s ⟨q, qc, r, rc, t, tc⟩) ∧ Hid (Below u2.heap.size u2 B)) ∧
          Hid (∀ V q qc r rc t tc, Hid (Below u2.heap.size u2 V) → Hid (Sc V s ⟨q, qc, r, rc, t, tc⟩) → Calls Try.prog 15 #[svl s.c q s.ps.length qc r s.ks.length rc t s.ds.length tc, svl s.c x.p s.ps.length x.pc x.k s.ks.length x.kc x.d s.ds.length x.dc] V fun e B => e = .returned (.bool true) ∧ Sy N s.c x.p s.ps.length x.pc x.k s.ks.length x.kc x.d s.ds.length x.dc v i vc u j uc (str all) B ∧ Hid (Below u2.heap.size u2 B)) ∧
          Hid (∀ V, Hid (Below u2.heap.size u2 V) → Calls Try.prog 8 #[] V fun e B => e = .returned (.bool true) ∧ Sy N s.c x.p s.ps.length x.pc x.k s.ks.length x.kc x.d s.ds.length x.dc v i vc u j uc (str all) B ∧ Hid (Below w.heap.size w B))) := fun v i vc u1 u j uc u2 h1 hb1 hb2 h2 => by
        have hu : Below V0.heap.size V0 u2 := up u1 u2 hb1.out hb2.out
        have KY : ∀ V, Below u2.heap.size u2 V → Sy N s.c x.p s.ps.length x.pc x.k s.ks.length x.kc x.d s.ds.length x.dc v i vc u j uc (str all) V := fun V hV => ⟨K8 V (up u2 V hu hV), (h1.out.below (hb2.out.trans (hV.mono hb2.out.size))).conv, (h2.out.below hV).conv⟩
        have up2 : ∀ V B, Below u2.heap.size u2 V → Below V.heap.size V B → Below u2.heap.size u2 B := fun V B a b => a.trans (b.mono a.size)
        have hd := below_drewN u2 1
        refine ⟨KY _ hd, hd, fun V hV => ?_, fun V q qc r rc t tc hV hy => ?_, fun V hV => ?_⟩
        · obtain ⟨rfl, g1, g2, g3⟩ := h1.out.below (hb2.out.trans (hV.out.mono hb2.out.size))
          rw [hall] at hlen
          refine (parse_any g2 g1 (by omega) hbs g3 hpar).mono ?_
          rintro e B ⟨q, qc, r, rc, t, tc, he, hB⟩
          have := up2 V B hV.out hB.out.2
          exact ⟨q, qc, r, rc, t, tc, he, KY _ this, hB.out.1, this⟩
        · have := refsame15 s s ⟨q, qc, r, rc, t, tc⟩ x V hy.out (hS.below (up u2 V hu hV.out)) (right_few hR).1
          rw [decide_eq_true rfl] at this
          exact this.mono fun e B ⟨he, hB⟩ => ⟨he, KY _ (up2 V B hV.out hB.out), up2 V B hV.out hB.out⟩
        · exact (awake8 V).mono fun e B ⟨he, hB⟩ => ⟨he, KY _ (up2 V B hV.out hB.out), hb.trans ((up u2 B hu (up2 V B hV.out hB.out)).mono hb.size)⟩
      clear h ho hO hNW K8 hS up hb hf hin hR hlen hall hpar hbs T8
      obtain ⟨⟨m0, m1, m2, m3, m4⟩, ps, ks, ds⟩ := s
      obtain ⟨p, pc, k, kc, d, dc⟩ := x
      simp only at *
      generalize str all = st at *
      generalize ps.length = n at *
      generalize ks.length = m at *
      generalize ds.length = l at *
      obtain ⟨⟨c0, c1, c2, c3, c4⟩, ⟨c5, c6, c7⟩⟩ := C8.out
      clear C8
      simp only at c0 c1 c2 c3 c4
      go_enter Try.func5, Try.ntmps5
      go_wp2_with fail
      refine T7.out.mono ?_
      rintro e w1 ⟨rfl, ⟨⟨d0, d1, d2, d3, d4⟩, ⟨d5, d6, d7⟩⟩, h1⟩
      have T19' := Lib.hid (T19.out _ h1)
      clear T7 T19 c0 c1 c2 c3 c4 c5 c6 c7
      simp only at d0 d1 d2 d3 d4
      go_wp2_with fail
      refine T19'.out.mono ?_
      rintro e w2 ⟨v, i, vc, rfl, ⟨⟨e0, e1, e2, e3, e4⟩, ⟨e5, e6, e7⟩⟩, hP, h2⟩
      have T11' := Lib.hid (T11.out _ h2)
      clear T19' T11 d0 d1 d2 d3 d4 d5 d6 d7
      simp only at e0 e1 e2 e3 e4
      go_wp2_with fail
      refine T11'.out.mono ?_
      rintro e w3 ⟨rfl, ⟨⟨f0, f1, f2, f3, f4⟩, ⟨f5, f6, f7⟩⟩, h3⟩
      have h3' := UP.out _ _ h2 h3
      have T20' := Lib.hid (T20.out _ h3')
      clear T11' T20 e0 e1 e2 e3 e4 e5 e6 e7
      simp only at f0 f1 f2 f3 f4
      go_wp2_with fail
      refine T20'.out.mono ?_
      rintro e w4 ⟨u, j, uc, rfl, hj, hU, h4⟩
      obtain ⟨K0, g0, T17, T15, T8⟩ := BK.out v i vc w2 u j uc w4 hP h2 (h3.out.trans (h4.out.mono h3.out.size)) hU
      clear T20' BK f0 f1 f2 f3 f4 f5 f6 f7 h1 h2 h3 h3' h4 hP hU UP
      go_wp2_with fail
      go_region_held3 (Sy N ⟨m0, m1, m2, m3, m4⟩ p n pc k m kc d l dc v i vc u j uc st) (first | exact K0.out | assumption) (first
        | (go_at_call 8; refine (T8.out _ g2).mono ?_; rintro e v5 ⟨rfl, k5, g3⟩)
        | (go_at_call 15; refine (T15.out _ _ _ _ _ _ _ g1 hy).mono ?_; rintro e v2 ⟨rfl, k2, g2⟩)
        | (go_at_call 17; refine (T17.out _ g0).mono ?_; rintro e v1 ⟨q', qc', r', rc', t', tc', rfl, k1, hy, g1⟩))
      go_wp2
      go_ret
      exact ⟨rfl, g3.out⟩
    · rw [decide_eq_false hR] at T11
      have T19 : Hid (∀ V, Hid (Below V0.heap.size V0 V) → Calls Try.prog 19 #[svl s.c x.p s.ps.length x.pc x.k s.ks.length x.kc x.d s.ds.length x.dc] V fun e B => e = .returned (.tuple #[.slice none 0 0, .int .i64 1]) ∧ S8 N s.c x.p s.ps.length x.pc x.k s.ks.length x.kc x.d s.ds.length x.dc B ∧ Hid (Below V0.heap.size V0 B)) := fun V hV =>
        (bytes19_not s x V (hS.below hV.out) hR).mono fun e B ⟨he, hB⟩ => ⟨he, K8 _ (up V B hV.out hB.out), up V B hV.out hB.out⟩
      clear h ho hO hNW K8 hS up hb hf hin hR
      obtain ⟨⟨m0, m1, m2, m3, m4⟩, ps, ks, ds⟩ := s
      obtain ⟨p, pc, k, kc, d, dc⟩ := x
      simp only at *
      generalize ps.length = n at *
      generalize ks.length = m at *
      generalize ds.length = l at *
      obtain ⟨⟨c0, c1, c2, c3, c4⟩, ⟨c5, c6, c7⟩⟩ := C8.out
      clear C8
      simp only at c0 c1 c2 c3 c4
      go_enter Try.func5, Try.ntmps5
      go_wp2_with fail
      refine T7.out.mono ?_
      rintro e w1 ⟨rfl, ⟨⟨d0, d1, d2, d3, d4⟩, ⟨d5, d6, d7⟩⟩, h1⟩
      have T19' := Lib.hid (T19.out _ h1)
      clear T7 T19 c0 c1 c2 c3 c4 c5 c6 c7
      simp only at d0 d1 d2 d3 d4
      go_wp2_with fail
      refine T19'.out.mono ?_
      rintro e w2 ⟨rfl, ⟨⟨e0, e1, e2, e3, e4⟩, ⟨e5, e6, e7⟩⟩, h2⟩
      have T11' := Lib.hid (T11.out _ h2)
      clear T19' T11 d0 d1 d2 d3 d4 d5 d6 d7
      simp only at e0 e1 e2 e3 e4
      go_wp2_with fail
      refine T11'.out.mono ?_
      rintro e w3 ⟨rfl, ⟨⟨f0, f1, f2, f3, f4⟩, ⟨f5, f6, f7⟩⟩, h3⟩
      have T8' := Lib.hid (T8.out _ (UP.out _ _ h2 h3))
      clear T11' e0 e1 e2 e3 e4 e5 e6 e7 UP h1 h2 h3 T8
      go_wp2_with fail
      refine T8'.out.mono ?_
      rintro e w4 ⟨rfl, h4⟩
      go_wp2
      go_ret
      exact ⟨rfl, h4.out⟩
  · rw [decide_eq_false hf] at T7
    clear h ho hO hNW K8 hS up hb hf
    obtain ⟨⟨m0, m1, m2, m3, m4⟩, ps, ks, ds⟩ := s
    obtain ⟨p, pc, k, kc, d, dc⟩ := x
    simp only at *
    generalize ps.length = n at *
    generalize ks.length = m at *
    generalize ds.length = l at *
    obtain ⟨⟨c0, c1, c2, c3, c4⟩, ⟨c5, c6, c7⟩⟩ := C8.out
    clear C8
    simp only at c0 c1 c2 c3 c4
    go_enter Try.func5, Try.ntmps5
    go_wp2_with fail
    refine T7.out.mono ?_
    rintro e w1 ⟨rfl, ⟨⟨d0, d1, d2, d3, d4⟩, ⟨d5, d6, d7⟩⟩, h1⟩
    have T8' := Lib.hid (T8.out _ h1)
    clear T7 T8 h1
    go_wp2_with fail
    refine T8'.out.mono ?_
    rintro e w4 ⟨rfl, h4⟩
    go_wp2
    go_ret
    exact ⟨rfl, h4.out⟩
end Go.Proofs.Ytfhcgildokdppaa
