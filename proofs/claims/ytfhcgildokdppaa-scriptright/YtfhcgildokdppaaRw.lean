/-
  ScriptRight walked: of every two scripts it returns true; what was in memory stays.
-/
import Derived.Test.YtfhcgildokdppaaPw
import Derived.Test.YtfhcgildokdppaaSa
namespace Go.Proofs.Ytfhcgildokdppaa
open Go.RowKit Go.Shelf tp
/-- two scripts' boxes. -/
abbrev T8x (N : Nat) (c : Cfg) (p : Option Addr) (n pc : Nat) (k : Option Addr) (m kc : Nat) (d : Option Addr) (l dc : Nat) (N' : Nat) (c' : Cfg) (p' : Option Addr) (n' pc' : Nat) (k' : Option Addr) (m' kc' : Nat) (d' : Option Addr) (l' dc' : Nat) (V : World) : Prop :=
  S8 N c p n pc k m kc d l dc V ∧ S8 N' c' p' n' pc' k' m' kc' d' l' dc' V
/-- and the nearest config's. -/
abbrev T9x (N : Nat) (c : Cfg) (p : Option Addr) (n pc : Nat) (k : Option Addr) (m kc : Nat) (d : Option Addr) (l dc : Nat) (N' : Nat) (c' : Cfg) (p' : Option Addr) (n' pc' : Nat) (k' : Option Addr) (m' kc' : Nat) (d' : Option Addr) (l' dc' : Nat) (M : Nat) (r : Cfg) (V : World) : Prop :=
  S8 N c p n pc k m kc d l dc V ∧ S8 N' c' p' n' pc' k' m' kc' d' l' dc' V ∧ Cc M r V
set_option maxRecDepth 100000 in
set_option maxHeartbeats 8000000 in
theorem right_walk (s t : Scr) (x y : Ad) (w : World) (h : Sc w s x) (h' : Sc w t y) : Calls Try.prog 3 #[sv s x, sv t y] w fun e B => e = .returned (.bool true) ∧ Below w.heap.size w B := by
  obtain ⟨N, hN⟩ : ∃ N, w.heap.size = N := ⟨_, rfl⟩
  change Calls Try.prog 3 #[svl s.c x.p s.ps.length x.pc x.k s.ks.length x.kc x.d s.ds.length x.dc, svl t.c y.p t.ps.length y.pc y.k t.ks.length y.kc y.d t.ds.length y.dc] w _
  obtain ⟨V0, hV0⟩ : ∃ V0, (w.alloc (.cells (scl s.c x.p s.ps.length x.pc x.k s.ks.length x.kc x.d s.ds.length x.dc) 27)).alloc (.cells (scl t.c y.p t.ps.length y.pc y.k t.ks.length y.kc y.d t.ds.length y.dc) 27) = V0 := ⟨_, rfl⟩
  obtain ⟨hO, hO', hb', hsz⟩ := twoS hN hV0
  have hb : Below w.heap.size w V0 := hN.symm ▸ hb'
  have KT : ∀ V, Below V0.heap.size V0 V → T8x N s.c x.p s.ps.length x.pc x.k s.ks.length x.kc x.d s.ds.length x.dc (N + 1) t.c y.p t.ps.length y.pc y.k t.ks.length y.kc y.d t.ds.length y.dc V := fun V hV => ⟨cells8 ((hV.block N (by omega)).trans hO), cells8 ((hV.block (N + 1) (by omega)).trans hO')⟩
  have hS := h.below hb
  have hS' := h'.below hb
  have up : ∀ V B, Below V0.heap.size V0 V → Below V.heap.size V B → Below V0.heap.size V0 B := fun V B a b => a.trans (b.mono a.size)
  have B0 : Hid (Below V0.heap.size V0 V0) := Below.refl _ _
  have C8 : Hid (T8x N s.c x.p s.ps.length x.pc x.k s.ks.length x.kc x.d s.ds.length x.dc (N + 1) t.c y.p t.ps.length y.pc y.k t.ks.length y.kc y.d t.ds.length y.dc V0) := KT V0 B0.out
  have T8 : Hid (∀ V, Hid (Below V0.heap.size V0 V) → Calls Try.prog 8 #[] V fun e B => e = .returned (.bool true) ∧ Hid (Below w.heap.size w B)) := fun V hV => (awake8 V).mono fun e B ⟨he, hB⟩ => ⟨he, hb.trans ((up V B hV.out hB.out).mono hb.size)⟩
  have T7 : Hid (Calls Try.prog 7 #[svl s.c x.p s.ps.length x.pc x.k s.ks.length x.kc x.d s.ds.length x.dc] V0 fun e B => e = .returned (.bool (decide (few s))) ∧ T8x N s.c x.p s.ps.length x.pc x.k s.ks.length x.kc x.d s.ds.length x.dc (N + 1) t.c y.p t.ps.length y.pc y.k t.ks.length y.kc y.d t.ds.length y.dc B ∧ Hid (Below V0.heap.size V0 B)) := (few7 s x V0 hS).mono fun e B ⟨he, hB⟩ => ⟨he, KT _ hB.out, hB⟩
  have T7t : Hid (∀ V, Hid (Below V0.heap.size V0 V) → Calls Try.prog 7 #[svl t.c y.p t.ps.length y.pc y.k t.ks.length y.kc y.d t.ds.length y.dc] V fun e B => e = .returned (.bool (decide (few t))) ∧ Hid (Below V0.heap.size V0 B)) := fun V hV => (few7 t y V (hS'.below hV.out)).mono fun e B ⟨he, hB⟩ => ⟨he, up V B hV.out hB.out⟩
  by_cases hf : few s
  · rw [decide_eq_true hf] at T7
    by_cases hft : few t
    · rw [decide_eq_true hft] at T7t
      have hin : ∀ l ∈ s.ps, l.length ≤ 1000000 := fun l hl => Nat.le_trans (hf.2.1 l hl) (by decide)
      have hF : Few s := by
        have h1 := hf.1
        have h3 := hf.2.2.1
        have h4 := hf.2.2.2
        exact ⟨by omega, hin, by omega, by omega⟩
      have hn9 := hf.1
      have CN : ∀ j, j ≤ s.ps.length → cn s.ps j ≤ 270 := fun j hj => by
        have := cn_le s.ps 30 hf.2.1 j hj
        have : j * 30 ≤ 9 * 30 := Nat.mul_le_mul_right _ (by omega)
        omega
      -- the loop
      have LP : Hid (∀ j V, j < s.ps.length → Hid (Below V0.heap.size V0 V) → ∃ (b o : Nat) (q : Option Addr) (m k c1 : Nat), x.p = some ⟨b, o, none⟩ ∧ V.cell? ⟨N, 5, none⟩ = some (.slice x.p s.ps.length x.pc) ∧ V.cell? ⟨b, o + j, none⟩ = some (.slice q m k) ∧ Hid (cn s.ps j = c1) ∧ Hid (cn s.ps (j + 1) = c1 + m) ∧ c1 ≤ 270 ∧ m ≤ 30) := fun j V hj hV => by
        obtain ⟨b, o, q, k, hp, hc⟩ := nowP hS.ps j hj
        obtain ⟨e1, _⟩ := hc.out V hV.out
        exact ⟨b, o, q, _, k, _, hp, (KT V hV.out).1.2.1, e1, rfl, cn_next s.ps j hj, CN _ (by omega), hf.2.1 _ (List.getElem_mem hj)⟩
      have LE : Hid (∀ V, Hid (Below V0.heap.size V0 V) → T8x N s.c x.p s.ps.length x.pc x.k s.ks.length x.kc x.d s.ds.length x.dc (N + 1) t.c y.p t.ps.length y.pc y.k t.ks.length y.kc y.d t.ds.length y.dc V ∧ Hid (Calls Try.prog 9 #[cv s.c] V fun e B => e = .returned (cv (near s.c)) ∧ Hid (Below V0.heap.size V0 B))) := fun V hV => ⟨KT V hV.out, (nearest9 s.c V).mono fun e B ⟨he, hB⟩ => ⟨he, up V B hV.out hB.out⟩⟩
      -- the last region
      have BK : Hid (∀ V1 M W, Hid (Below V0.heap.size V0 V1) → V1.heap.size = M → V1.alloc (.cells (ccs (near s.c)) 23) = W →
          Hid (T9x N s.c x.p s.ps.length x.pc x.k s.ks.length x.kc x.d s.ds.length x.dc (N + 1) t.c y.p t.ps.length y.pc y.k t.ks.length y.kc y.d t.ds.length y.dc M (near s.c) W.drew) ∧ Hid (Below W.heap.size W W.drew) ∧
          (Hid (∀ V, Hid (Below W.heap.size W V) → Calls Try.prog 10 #[svl s.c x.p s.ps.length x.pc x.k s.ks.length x.kc x.d s.ds.length x.dc] V fun e B => e = .returned (.bool (decide (rightS s))) ∧ T9x N s.c x.p s.ps.length x.pc x.k s.ks.length x.kc x.d s.ds.length x.dc (N + 1) t.c y.p t.ps.length y.pc y.k t.ks.length y.kc y.d t.ds.length y.dc M (near s.c) B ∧ Hid (Below W.heap.size W B)) ∧
          Hid (∀ V, Hid (Below W.heap.size W V) → Calls Try.prog 11 #[svl s.c x.p s.ps.length x.pc x.k s.ks.length x.kc x.d s.ds.length x.dc] V fun e B => e = .returned (.bool (decide (rightS s))) ∧ T9x N s.c x.p s.ps.length x.pc x.k s.ks.length x.kc x.d s.ds.length x.dc (N + 1) t.c y.p t.ps.length y.pc y.k t.ks.length y.kc y.d t.ds.length y.dc M (near s.c) B ∧ Hid (Below W.heap.size W B)) ∧
          Hid (∀ V, Hid (Below W.heap.size W V) → Calls Try.prog 12 #[cv s.c] V fun e B => e = .returned (cv (near s.c)) ∧ T9x N s.c x.p s.ps.length x.pc x.k s.ks.length x.kc x.d s.ds.length x.dc (N + 1) t.c y.p t.ps.length y.pc y.k t.ks.length y.kc y.d t.ds.length y.dc M (near s.c) B ∧ Hid (Below W.heap.size W B)) ∧
          Hid (∀ V, Hid (Below W.heap.size W V) → Calls Try.prog 13 #[cv (near s.c)] V fun e B => e = .returned (.bool true) ∧ T9x N s.c x.p s.ps.length x.pc x.k s.ks.length x.kc x.d s.ds.length x.dc (N + 1) t.c y.p t.ps.length y.pc y.k t.ks.length y.kc y.d t.ds.length y.dc M (near s.c) B ∧ Hid (Below W.heap.size W B)) ∧
          Hid (∀ V, Hid (Below W.heap.size W V) → Calls Try.prog 13 #[cv s.c] V fun e B => e = .returned (.bool (decide (near s.c = s.c))) ∧ T9x N s.c x.p s.ps.length x.pc x.k s.ks.length x.kc x.d s.ds.length x.dc (N + 1) t.c y.p t.ps.length y.pc y.k t.ks.length y.kc y.d t.ds.length y.dc M (near s.c) B ∧ Hid (Below W.heap.size W B)) ∧
          Hid (∀ V, Hid (Below W.heap.size W V) → Calls Try.prog 14 #[svl s.c x.p s.ps.length x.pc x.k s.ks.length x.kc x.d s.ds.length x.dc, svl t.c y.p t.ps.length y.pc y.k t.ks.length y.kc y.d t.ds.length y.dc] V fun e B => e = .returned (.bool (decide (s = t))) ∧ T9x N s.c x.p s.ps.length x.pc x.k s.ks.length x.kc x.d s.ds.length x.dc (N + 1) t.c y.p t.ps.length y.pc y.k t.ks.length y.kc y.d t.ds.length y.dc M (near s.c) B ∧ Hid (Below W.heap.size W B)) ∧
          Hid (∀ V, Hid (Below W.heap.size W V) → Calls Try.prog 15 #[svl s.c x.p s.ps.length x.pc x.k s.ks.length x.kc x.d s.ds.length x.dc, svl t.c y.p t.ps.length y.pc y.k t.ks.length y.kc y.d t.ds.length y.dc] V fun e B => e = .returned (.bool (decide (s = t))) ∧ T9x N s.c x.p s.ps.length x.pc x.k s.ks.length x.kc x.d s.ds.length x.dc (N + 1) t.c y.p t.ps.length y.pc y.k t.ks.length y.kc y.d t.ds.length y.dc M (near s.c) B ∧ Hid (Below W.heap.size W B)) ∧
          Hid (∀ V, Hid (Below W.heap.size W V) → Calls Try.prog 14 #[svl s.c x.p s.ps.length x.pc x.k s.ks.length x.kc x.d s.ds.length x.dc, svl s.c x.p s.ps.length x.pc x.k s.ks.length x.kc x.d s.ds.length x.dc] V fun e B => e = .returned (.bool true) ∧ T9x N s.c x.p s.ps.length x.pc x.k s.ks.length x.kc x.d s.ds.length x.dc (N + 1) t.c y.p t.ps.length y.pc y.k t.ks.length y.kc y.d t.ds.length y.dc M (near s.c) B ∧ Hid (Below W.heap.size W B)) ∧
          Hid (∀ V, Hid (Below W.heap.size W V) → Calls Try.prog 16 #[svl s.c x.p s.ps.length x.pc x.k s.ks.length x.kc x.d s.ds.length x.dc] V fun e B => e = .returned (.int .i64 (cn s.ps s.ps.length : Int)) ∧ T9x N s.c x.p s.ps.length x.pc x.k s.ks.length x.kc x.d s.ds.length x.dc (N + 1) t.c y.p t.ps.length y.pc y.k t.ks.length y.kc y.d t.ds.length y.dc M (near s.c) B ∧ Hid (Below W.heap.size W B)) ∧
          Hid (∀ V, Hid (Below W.heap.size W V) → Calls Try.prog 8 #[] V fun e B => e = .returned (.bool true) ∧ T9x N s.c x.p s.ps.length x.pc x.k s.ks.length x.kc x.d s.ds.length x.dc (N + 1) t.c y.p t.ps.length y.pc y.k t.ks.length y.kc y.d t.ds.length y.dc M (near s.c) B ∧ Hid (Below w.heap.size w B)))) := fun V1 M W hV1 hM hW => by
        have hb1 : Below V1.heap.size V1 W := by rw [← hW]; exact (Below.refl _ _).alloc (Nat.le_refl _) _
        have hP : W.heap[M]? = some (.cells (ccs (near s.c)) 23 (0, 0)) := by rw [← hW]; exact heap_next hM.symm _
        have hMW := heap_lt hP
        have hVW := up V1 W hV1.out hb1
        have upW : ∀ V B, Below W.heap.size W V → Below V.heap.size V B → Below W.heap.size W B := fun V B a b => a.trans (b.mono a.size)
        have KW : ∀ V, Below W.heap.size W V → T9x N s.c x.p s.ps.length x.pc x.k s.ks.length x.kc x.d s.ds.length x.dc (N + 1) t.c y.p t.ps.length y.pc y.k t.ks.length y.kc y.d t.ds.length y.dc M (near s.c) V := fun V hV => by
          have := KT V (up W V hVW hV)
          exact ⟨this.1, this.2, cellsC ((hV.block M hMW).trans hP)⟩
        have SW : ∀ V, Below W.heap.size W V → Sc V s x ∧ Sc V t y := fun V hV => ⟨hS.below (up W V hVW hV), hS'.below (up W V hVW hV)⟩
        have hd := below_drewN W 1
        refine ⟨KW _ hd, hd, fun V hV => ?_, fun V hV => ?_, fun V hV => ?_, fun V hV => ?_, fun V hV => ?_, fun V hV => ?_, fun V hV => ?_, fun V hV => ?_, fun V hV => ?_, fun V hV => ?_⟩
        · exact (right10 s x V (SW V hV.out).1).mono fun e B ⟨he, hB⟩ => ⟨he, KW _ (upW V B hV.out hB.out), upW V B hV.out hB.out⟩
        · exact (refright11 s x V (SW V hV.out).1 hin).mono fun e B ⟨he, hB⟩ => ⟨he, KW _ (upW V B hV.out hB.out), upW V B hV.out hB.out⟩
        · exact (refnearest12 s.c V).mono fun e B ⟨he, hB⟩ => ⟨he, KW _ (upW V B hV.out hB.out), upW V B hV.out hB.out⟩
        · have := config13 (near s.c) V
          rw [decide_eq_true (near_near s.c)] at this
          exact this.mono fun e B ⟨he, hB⟩ => ⟨he, KW _ (upW V B hV.out hB.out), upW V B hV.out hB.out⟩
        · exact (config13 s.c V).mono fun e B ⟨he, hB⟩ => ⟨he, KW _ (upW V B hV.out hB.out), upW V B hV.out hB.out⟩
        · exact (same14 s t x y V (SW V hV.out).1 (SW V hV.out).2 hF).mono fun e B ⟨he, hB⟩ => ⟨he, KW _ (upW V B hV.out hB.out), upW V B hV.out hB.out⟩
        · exact (refsame15 s t x y V (SW V hV.out).1 (SW V hV.out).2 hF).mono fun e B ⟨he, hB⟩ => ⟨he, KW _ (upW V B hV.out hB.out), upW V B hV.out hB.out⟩
        · have := same14 s s x x V (SW V hV.out).1 (SW V hV.out).1 hF
          rw [decide_eq_true rfl] at this
          exact this.mono fun e B ⟨he, hB⟩ => ⟨he, KW _ (upW V B hV.out hB.out), upW V B hV.out hB.out⟩
        · exact (calls16 s x V (SW V hV.out).1 hn9 hf.2.1).mono fun e B ⟨he, hB⟩ => ⟨he, KW _ (upW V B hV.out hB.out), upW V B hV.out hB.out⟩
        · exact (awake8 V).mono fun e B ⟨he, hB⟩ => ⟨he, KW _ (upW V B hV.out hB.out), hb.trans ((up W B hVW (upW V B hV.out hB.out)).mono hb.size)⟩
      have c0 : Hid (cn s.ps 0 = 0) := rfl
      have E1 := eqC (near s.c) (near s.c)
      rw [decide_eq_true rfl] at E1
      have E2 := eqC (near s.c) s.c
      clear h h' hO hO' hb' hsz hb KT hS hS' up hf hft hin hF CN T8
      obtain ⟨qc, hqc⟩ : ∃ q, decide (near s.c = s.c) = q := ⟨_, rfl⟩
      obtain ⟨qr, hqr⟩ : ∃ q, decide (rightS s) = q := ⟨_, rfl⟩
      obtain ⟨qs, hqs⟩ : ∃ q, decide (s = t) = q := ⟨_, rfl⟩
      obtain ⟨C, hC⟩ : ∃ C, cn s.ps = C := ⟨_, rfl⟩
      obtain ⟨r, hr⟩ : ∃ r, near s.c = r := ⟨_, rfl⟩
      rw [hqc] at BK E2
      rw [hqr, hqs] at BK
      rw [hC] at BK LP c0
      rw [hr] at BK E1 E2 LE
      clear hqc hqr hqs hC hr
      have y1 : (qc == qc) = true := by simp
      have y2 : (qr == qr) = true := by simp
      have y3 : (qs == qs) = true := by simp
      obtain ⟨⟨m0, m1, m2, m3, m4⟩, ps, ks, ds⟩ := s
      obtain ⟨p, pc, k, kc, d, dc⟩ := x
      obtain ⟨⟨i0, i1, i2, i3, i4⟩, ps', ks', ds'⟩ := t
      obtain ⟨p', pc', k', kc', d', dc'⟩ := y
      obtain ⟨r0, r1, r2, r3, r4⟩ := r
      simp only at *
      generalize ps.length = n at *
      generalize ks.length = m at *
      generalize ds.length = l at *
      generalize ps'.length = n' at *
      generalize ks'.length = m' at *
      generalize ds'.length = l' at *
      obtain ⟨⟨⟨c0', c1, c2, c3, c4⟩, ⟨c5, c6, c7⟩⟩, ⟨⟨e0, e1, e2, e3, e4⟩, ⟨e5, e6, e7⟩⟩⟩ := C8.out
      clear C8
      simp only at c0' c1 c2 c3 c4 e0 e1 e2 e3 e4
      go_enter Try.func3, Try.ntmps3
      go_wp2_with fail
      refine T7.out.mono ?_
      rintro e w1 ⟨rfl, ⟨⟨⟨f0, f1, f2, f3, f4⟩, ⟨f5, f6, f7⟩⟩, ⟨⟨g0, g1, g2, g3, g4⟩, ⟨g5, g6, g7⟩⟩⟩, h1⟩
      have T7' := Lib.hid (T7t.out _ h1)
      clear T7 T7t c0' c1 c2 c3 c4 c5 c6 c7 e0 e1 e2 e3 e4 e5 e6 e7 h1
      simp only at f0 f1 f2 f3 f4 g0 g1 g2 g3 g4
      go_wp2_with fail
      refine T7'.out.mono ?_
      rintro e w2 ⟨rfl, h2⟩
      clear T7' f0 f1 f2 f3 f4 f5 f6 f7 g0 g1 g2 g3 g4 g5 g6 g7
      go_wp2_with fail
      go_loopw [5, 6] (fun u i wr => ∃ j : Nat, j ≤ n ∧ i = .int .i64 j ∧ ∃ cj : Nat, u = .int .i64 cj ∧ Hid (C j = cj) ∧ Hid (Below V0.heap.size V0 wr)) (fun _ i _ => n - (intOf i).toNat)
      case atStart => exact ⟨0, by omega, rfl, 0, rfl, c0, h2⟩
      case round =>
        obtain ⟨j, hj, rfl, cj, rfl, hC, hB⟩ := hrel
        clear h2
        by_cases hlt : j < n
        · obtain ⟨b, o, q, mm, kk, c1, rfl, e5, h0, k1, k2, hc1, hmm⟩ := LP.out j _ hlt hB
          obtain rfl : c1 = cj := k1.out.symm.trans hC.out
          have hjn : (j : Int) < (n : Int) := by omega
          have hj0 : (0 : Int) ≤ (j : Int) := by omega
          clear LP LE BK k1 hC E1 E2
          go_wp2
          go_roundw
          case rel => exact ⟨j + 1, by omega, by simp, c1 + mm, by simp, k2, hB⟩
          case measure => simp [intOf]; omega
        · obtain rfl : j = n := by omega
          obtain ⟨⟨⟨⟨f0, f1, f2, f3, f4⟩, ⟨f5, f6, f7⟩⟩, ⟨⟨g0, g1, g2, g3, g4⟩, ⟨g5, g6, g7⟩⟩⟩, T9⟩ := LE.out _ hB
          simp only at f0 f1 f2 f3 f4 g0 g1 g2 g3 g4
          clear LP LE
          go_wp2_with fail
          refine T9.out.mono ?_
          rintro e w3 ⟨rfl, h3⟩
          obtain ⟨M, hM⟩ : ∃ M, w3.heap.size = M := ⟨_, rfl⟩
          obtain ⟨W, hW⟩ : ∃ W, w3.alloc (.cells #[.int .i64 r0, .int .i64 r1, .int .i64 r2, .int .i64 r3, .int .i64 r4] 23) = W := ⟨_, rfl⟩
          obtain ⟨K0, h0, T10, T11, T12, T13, T13c, T14, T15, T14s, T16, T8⟩ := BK.out w3 M W h3 hM hW
          rw [hC.out] at T16
          have y4 : ((cj : Int) == (cj : Int)) = true := by simp
          clear T9 BK hC h3 hB f0 f1 f2 f3 f4 f5 f6 f7 g0 g1 g2 g3 g4 g5 g6 g7
          go_wp2_with fail
          go_region_held3 (T9x N ⟨m0, m1, m2, m3, m4⟩ p j pc k m kc d l dc (N + 1) ⟨i0, i1, i2, i3, i4⟩ p' n' pc' k' m' kc' d' l' dc' M ⟨r0, r1, r2, r3, r4⟩) (first | exact K0.out | assumption) (first
            | (go_at_call 8; refine (T8.out _ j9).mono ?_; rintro e v10 ⟨rfl, z10, j10⟩)
            | (go_at_call 16; refine (T16.out _ j8).mono ?_; rintro e v9 ⟨rfl, z9, j9⟩)
            | (go_at_call 14; refine (T14s.out _ j7).mono ?_; rintro e v8 ⟨rfl, z8, j8⟩)
            | (go_at_call 15; refine (T15.out _ j6).mono ?_; rintro e v7 ⟨rfl, z7, j7⟩)
            | (go_at_call 14; refine (T14.out _ j5).mono ?_; rintro e v6 ⟨rfl, z6, j6⟩)
            | (go_at_call 13; refine (T13c.out _ j4).mono ?_; rintro e v5 ⟨rfl, z5, j5⟩)
            | (go_at_call 13; refine (T13.out _ j3).mono ?_; rintro e v4 ⟨rfl, z4, j4⟩)
            | (go_at_call 12; refine (T12.out _ j2).mono ?_; rintro e v3 ⟨rfl, z3, j3⟩)
            | (go_at_call 11; refine (T11.out _ j1).mono ?_; rintro e v2 ⟨rfl, z2, j2⟩)
            | (go_at_call 10; refine (T10.out _ h0).mono ?_; rintro e v1 ⟨rfl, z1, j1⟩))
          go_wp2
          go_ret
          exact ⟨rfl, j10.out⟩
    · rw [decide_eq_false hft] at T7t
      clear h h' hO hO' hb' hsz hb KT hS hS' up hf hft
      obtain ⟨⟨m0, m1, m2, m3, m4⟩, ps, ks, ds⟩ := s
      obtain ⟨p, pc, k, kc, d, dc⟩ := x
      obtain ⟨⟨i0, i1, i2, i3, i4⟩, ps', ks', ds'⟩ := t
      obtain ⟨p', pc', k', kc', d', dc'⟩ := y
      simp only at *
      generalize ps.length = n at *
      generalize ks.length = m at *
      generalize ds.length = l at *
      generalize ps'.length = n' at *
      generalize ks'.length = m' at *
      generalize ds'.length = l' at *
      obtain ⟨⟨⟨c0, c1, c2, c3, c4⟩, ⟨c5, c6, c7⟩⟩, ⟨⟨e0, e1, e2, e3, e4⟩, ⟨e5, e6, e7⟩⟩⟩ := C8.out
      clear C8
      simp only at c0 c1 c2 c3 c4 e0 e1 e2 e3 e4
      go_enter Try.func3, Try.ntmps3
      go_wp2_with fail
      refine T7.out.mono ?_
      rintro e w1 ⟨rfl, ⟨⟨⟨f0, f1, f2, f3, f4⟩, ⟨f5, f6, f7⟩⟩, ⟨⟨g0, g1, g2, g3, g4⟩, ⟨g5, g6, g7⟩⟩⟩, h1⟩
      have T7' := Lib.hid (T7t.out _ h1)
      clear T7 T7t c0 c1 c2 c3 c4 c5 c6 c7 e0 e1 e2 e3 e4 e5 e6 e7 h1
      simp only at f0 f1 f2 f3 f4 g0 g1 g2 g3 g4
      go_wp2_with fail
      refine T7'.out.mono ?_
      rintro e w2 ⟨rfl, h2⟩
      have T8' := Lib.hid (T8.out _ h2)
      clear T7' f0 f1 f2 f3 f4 f5 f6 f7 g0 g1 g2 g3 g4 g5 g6 g7 h2 T8
      go_wp2_with fail
      refine T8'.out.mono ?_
      rintro e w4 ⟨rfl, h4⟩
      go_wp2
      go_ret
      exact ⟨rfl, h4.out⟩
  · rw [decide_eq_false hf] at T7
    clear h h' hO hO' hb' hsz hb KT hS hS' up hf T7t
    obtain ⟨⟨m0, m1, m2, m3, m4⟩, ps, ks, ds⟩ := s
    obtain ⟨p, pc, k, kc, d, dc⟩ := x
    obtain ⟨⟨i0, i1, i2, i3, i4⟩, ps', ks', ds'⟩ := t
    obtain ⟨p', pc', k', kc', d', dc'⟩ := y
    simp only at *
    generalize ps.length = n at *
    generalize ks.length = m at *
    generalize ds.length = l at *
    generalize ps'.length = n' at *
    generalize ks'.length = m' at *
    generalize ds'.length = l' at *
    obtain ⟨⟨⟨c0, c1, c2, c3, c4⟩, ⟨c5, c6, c7⟩⟩, ⟨⟨e0, e1, e2, e3, e4⟩, ⟨e5, e6, e7⟩⟩⟩ := C8.out
    clear C8
    simp only at c0 c1 c2 c3 c4 e0 e1 e2 e3 e4
    go_enter Try.func3, Try.ntmps3
    go_wp2_with fail
    refine T7.out.mono ?_
    rintro e w1 ⟨rfl, ⟨⟨⟨f0, f1, f2, f3, f4⟩, ⟨f5, f6, f7⟩⟩, ⟨⟨g0, g1, g2, g3, g4⟩, ⟨g5, g6, g7⟩⟩⟩, h1⟩
    have T8' := Lib.hid (T8.out _ h1)
    clear T7 T8 c0 c1 c2 c3 c4 c5 c6 c7 e0 e1 e2 e3 e4 e5 e6 e7 h1
    clear f0 f1 f2 f3 f4 f5 f6 f7 g0 g1 g2 g3 g4 g5 g6 g7
    go_wp2_with fail
    refine T8'.out.mono ?_
    rintro e w4 ⟨rfl, h4⟩
    go_wp2
    go_ret
    exact ⟨rfl, h4.out⟩
end Go.Proofs.Ytfhcgildokdppaa
