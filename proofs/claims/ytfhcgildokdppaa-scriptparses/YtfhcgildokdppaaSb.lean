/-
  The document's Same of two scripts by its contract (at most a million programs, calls, picks and draws each).
-/
import Derived.Test.YtfhcgildokdppaaSa
namespace Go.Proofs.Ytfhcgildokdppaa
open Go.RowKit Go.Shelf tp
set_option maxRecDepth 100000 in
set_option maxHeartbeats 8000000 in
theorem refsame15 (s t : Scr) (x y : Ad) (w : World) (h : Sc w s x) (h' : Sc w t y) (hf : Few s) : Calls Try.prog 15 #[sv s x, sv t y] w fun e B => e = .returned (.bool (decide (s = t))) ∧ Hid (Below w.heap.size w B) := by
  obtain ⟨N, hN⟩ : ∃ N, w.heap.size = N := ⟨_, rfl⟩
  rw [hN]
  obtain ⟨W1, hW1⟩ : ∃ W1, (w.alloc (.cells (scs s x) 27)).alloc (.cells (scs t y) 27) = W1 := ⟨_, rfl⟩
  obtain ⟨hO, hO', hb, hs⟩ := twoS hN hW1
  have LA : ∀ V, Below W1.heap.size W1 V → Below w.heap.size w V := fun V hV => (hN ▸ hb).trans (hV.mono (by omega))
  have C1 : Cc N s.c W1 := cellsS hO
  have C2 : Cc (N + 1) t.c W1 := cellsS hO'
  have CA : Hid (∀ V, Hid (Below W1.heap.size W1 V) → S3 N x.p s.ps.length x.pc x.k s.ks.length x.kc x.d s.ds.length x.dc V ∧ S3 (N + 1) y.p t.ps.length y.pc y.k t.ks.length y.kc y.d t.ds.length y.dc V) := fun V hV => ⟨cells3 ((hV.out.block N (by omega)).trans hO), cells3 ((hV.out.block (N + 1) (by omega)).trans hO')⟩
  have NP : Hid (∀ j V, j < s.ps.length → s.ps.length = t.ps.length → Hid (Below W1.heap.size W1 V) → ∃ (b o b' o' : Nat) (q q' : Option Addr) (m k m' k' : Nat) (u v : List Opn), x.p = some ⟨b, o, none⟩ ∧ y.p = some ⟨b', o', none⟩ ∧ V.drew.cell? ⟨b, o + j, none⟩ = some (.slice q m k) ∧ V.drew.cell? ⟨b', o' + j, none⟩ = some (.slice q' m' k') ∧ Hid (s.ps[j]? = some u ∧ t.ps[j]? = some v) ∧
      Hid (Calls Try.prog 32 #[.slice q m k, .slice q' m' k'] V.drew fun e B => e = .returned (.bool (decide (u = v))) ∧ (S3 N x.p s.ps.length x.pc x.k s.ks.length x.kc x.d s.ds.length x.dc B ∧ S3 (N + 1) y.p t.ps.length y.pc y.k t.ks.length y.kc y.d t.ds.length y.dc B ∧ B.cell? ⟨b, o + j, none⟩ = some (.slice q m k) ∧ B.cell? ⟨b', o' + j, none⟩ = some (.slice q' m' k')) ∧ Hid (Below W1.heap.size W1 B))) := fun j V hj hl hV => by
    obtain ⟨b, o, q, k, hp', hc⟩ := nowP h.ps j hj
    obtain ⟨b', o', q', k', hr', hc'⟩ := nowP h'.ps j (by omega)
    have hd : Below W1.heap.size W1 V.drew := hV.out.trans ((below_drewN V 1).mono hV.out.size)
    obtain ⟨h1, h2⟩ := hc.out V.drew (LA _ hd)
    obtain ⟨h3, h4⟩ := hc'.out V.drew (LA _ hd)
    exact ⟨b, o, b', o', q, q', _, k, _, k', s.ps[j], t.ps[j]'(by omega), hp', hr', h1, h3, ⟨List.getElem?_eq_getElem hj, List.getElem?_eq_getElem (by omega)⟩, (same17 q q' s.ps[j] (t.ps[j]'(by omega)) k k' V.drew h2 h4 (hf.ins _ (List.getElem_mem hj))).mono fun e B ⟨he, hB⟩ => by
      have hB' : Below W1.heap.size W1 B := hd.trans (hB.out.mono hd.size)
      obtain ⟨z1, z2⟩ := CA.out B hB'
      exact ⟨he, ⟨z1, z2, (hc.out B (LA _ hB')).1, (hc'.out B (LA _ hB')).1⟩, hB'⟩⟩
  have Tk : Hid (∀ V, Hid (Below W1.heap.size W1 V) → Calls Try.prog 33 #[.slice x.k s.ks.length x.kc, .slice y.k t.ks.length y.kc] V fun e B => e = .returned (.bool (decide (s.ks = t.ks))) ∧ Hid (Below W1.heap.size W1 B)) := fun V hV => (numbers33 x.k y.k s.ks t.ks x.kc y.kc V (h.ks.below (LA V hV.out)) (h'.ks.below (LA V hV.out)) hf.ks).mono fun e B ⟨he, hB⟩ => ⟨he, hV.out.trans (hB.out.mono hV.out.size)⟩
  have Td : Hid (∀ V, Hid (Below W1.heap.size W1 V) → Calls Try.prog 33 #[.slice x.d s.ds.length x.dc, .slice y.d t.ds.length y.dc] V fun e B => e = .returned (.bool (decide (s.ds = t.ds))) ∧ Hid (Below W1.heap.size W1 B)) := fun V hV => (numbers33 x.d y.d s.ds t.ds x.dc y.dc V (h.ds.below (LA V hV.out)) (h'.ds.below (LA V hV.out)) hf.ds).mono fun e B ⟨he, hB⟩ => ⟨he, hV.out.trans (hB.out.mono hV.out.size)⟩
  have F : Hid (∀ V, Hid (Below W1.heap.size W1 V) → Hid (Below N w V)) := fun V hV => hN ▸ LA V hV.out
  have B0 : Hid (Below W1.heap.size W1 W1) := Below.refl _ _
  have CD : Hid (∀ V, Hid (Below W1.heap.size W1 V) → S3 N x.p s.ps.length x.pc x.k s.ks.length x.kc x.d s.ds.length x.dc V.drew ∧ S3 (N + 1) y.p t.ps.length y.pc y.k t.ks.length y.kc y.d t.ds.length y.dc V.drew) := fun V hV => CA.out V.drew (hV.out.trans ((below_drewN V 1).mono hV.out.size))
  have e1 := neC s.c t.c
  have HP : Hid (s.ps.length ≤ 1000000) := hf.ps
  have CASES : (decide (s.c = t.c) = false ∧ decide (s = t) = false) ∨ (decide (s.c = t.c) = true ∧ ¬ s.ps.length = t.ps.length ∧ decide (s = t) = false) ∨ (decide (s.c = t.c) = true ∧ s.ps.length = t.ps.length ∧ decide (s = t) = (decide (s.ps = t.ps) && (decide (s.ks = t.ks) && decide (s.ds = t.ds)))) := by
    rw [same_dec]
    by_cases h1 : s.c = t.c
    · by_cases h2 : s.ps.length = t.ps.length
      · exact .inr (.inr ⟨decide_eq_true h1, h2, by rw [decide_eq_true h1]; rfl⟩)
      · refine .inr (.inl ⟨decide_eq_true h1, h2, ?_⟩)
        rw [decide_eq_false (p := s.ps = t.ps) fun h => h2 (by rw [h])]
        simp
    · exact .inl ⟨decide_eq_false h1, by rw [decide_eq_false h1]; rfl⟩
  have EQ : s.ps.length = t.ps.length → ∀ q, decide (s.ps = t.ps) = q → (∀ (j : Nat) (x y : List Opn), (s.ps[j]? = some x ∧ t.ps[j]? = some y) → decide (x = y) = false → q = false) ∧ ((∀ j : Nat, j < s.ps.length → s.ps[j]? = t.ps[j]?) → q = true) := fun hl q hq => eq_dec hl hq
  clear h h' hb hO hO' LA hf
  generalize decide (s = t) = g at *
  generalize decide (s.c = t.c) = q1 at *
  obtain ⟨q2, hq2⟩ : ∃ q, decide (s.ps = t.ps) = q := ⟨_, rfl⟩
  rw [hq2] at CASES
  generalize decide (s.ks = t.ks) = q3 at *
  generalize decide (s.ds = t.ds) = q4 at *
  obtain ⟨⟨mx, bu, co, ba, bi⟩, ps, ks, ds⟩ := s
  obtain ⟨p, pc, k, kc, d, dc⟩ := x
  obtain ⟨⟨mx', bu', co', ba', bi'⟩, ps', ks', ds'⟩ := t
  obtain ⟨p', pc', k', kc', d', dc'⟩ := y
  simp only at *
  obtain ⟨c5, c6, c7⟩ := (CA.out _ B0).1
  obtain ⟨c8, c9, c10⟩ := (CA.out _ B0).2
  rcases CASES with ⟨rfl, rfl⟩ | ⟨rfl, hl, rfl⟩ | ⟨rfl, hl, hg⟩
  · clear NP Tk Td EQ CD CA hq2
    generalize ps.length = n at *
    generalize ks.length = m at *
    generalize ds.length = l at *
    generalize ps'.length = n' at *
    generalize ks'.length = m' at *
    generalize ds'.length = l' at *
    go_enter Try.func15, Try.ntmps15
    go_wp2
    go_ret
    exact ⟨rfl, F.out _ B0⟩
  · clear NP Tk Td EQ CD CA hq2
    generalize ps.length = n at *
    generalize ks.length = m at *
    generalize ds.length = l at *
    generalize ps'.length = n' at *
    generalize ks'.length = m' at *
    generalize ds'.length = l' at *
    have z1 : ¬ (n : Int) = (n' : Int) := by omega
    have z3 : ((n : Int) != (n' : Int)) = true := by simpa using z1
    clear hl
    go_enter Try.func15, Try.ntmps15
    go_wp2
    go_ret
    exact ⟨rfl, F.out _ B0⟩
  · obtain ⟨D1, D2⟩ := EQ hl q2 hq2
    replace D1 := Lib.hid D1
    replace D2 := Lib.hid D2
    replace hg := Lib.hid hg
    replace NP := Lib.hid (fun j V hj hV => NP.out j V hj hl hV)
    clear EQ hq2
    rw [← hl] at NP CA CD c8
    obtain ⟨n, hn⟩ : ∃ n, ps.length = n := ⟨_, rfl⟩
    rw [hn] at NP CA CD c5 c8 D2 HP
    clear hn hl
    generalize ks.length = m at *
    generalize ds.length = l at *
    generalize ks'.length = m' at *
    generalize ds'.length = l' at *
    go_enter Try.func15, Try.ntmps15
    go_wp2_with fail
    go_loopw [5] (fun i wr => ∃ j : Nat, j ≤ n ∧ i = .int .i64 j ∧ Hid (∀ j' : Nat, j' < j → ps[j']? = ps'[j']?) ∧ Hid (Below W1.heap.size W1 wr)) (fun i _ => n - (intOf i).toNat)
    case atStart => exact ⟨0, by omega, rfl, fun j' h => absurd h (Nat.not_lt_zero _), B0⟩
    case round =>
      obtain ⟨j, hj, rfl, hR, hB⟩ := hrel
      obtain ⟨⟨a5, a6, a7⟩, a8, a9, a10⟩ := CA.out _ hB
      have hn6 := HP.out
      clear B0 c5 c6 c7 c8 c9 c10 C1 C2 e1 HP
      by_cases hlt : j < n
      · obtain ⟨b, o, b', o', r, r', m1, k1, m2, k2, u, v, rfl, rfl, c0, c1, hxy, T⟩ := NP.out j _ hlt hB
        have K0 : Hid (S3 N (some ⟨b, o, none⟩) n pc k m kc d l dc wr.drew ∧ S3 (N + 1) (some ⟨b', o', none⟩) n pc' k' m' kc' d' l' dc' wr.drew ∧ wr.drew.cell? ⟨b, o + j, none⟩ = some (.slice r m1 k1) ∧ wr.drew.cell? ⟨b', o' + j, none⟩ = some (.slice r' m2 k2)) := ⟨(CD.out _ hB).1, (CD.out _ hB).2, c0, c1⟩
        have hjn : (j : Int) < (n : Int) := by omega
        have hj0 : (0 : Int) ≤ (j : Int) := by omega
        clear NP hB CD c0 c1 CA Tk Td
        cases hr : decide (u = v) with
        | true =>
          have HR2 : Hid (∀ j' : Nat, j' < j + 1 → ps[j']? = ps'[j']?) := fun j' hj' => by
            by_cases e : j' = j
            · subst e
              rw [hxy.out.1, hxy.out.2]
              rw [show u = v by simpa using hr]
            · exact hR.out j' (by omega)
          rw [hr] at T
          clear hr hR hxy D1 D2 hg
          go_wp2_with fail
          go_region_held3 (fun V => S3 N (some ⟨b, o, none⟩) n pc k m kc d l dc V ∧ S3 (N + 1) (some ⟨b', o', none⟩) n pc' k' m' kc' d' l' dc' V ∧ V.cell? ⟨b, o + j, none⟩ = some (.slice r m1 k1) ∧ V.cell? ⟨b', o' + j, none⟩ = some (.slice r' m2 k2)) (first | exact K0.out | assumption) (first | (go_at_call 32; refine T.out.mono ?_; rintro e w2 ⟨rfl, hc, h2⟩))
          go_wp2
          go_roundw
          case rel => exact ⟨j + 1, by omega, by simp, HR2, h2⟩
          case measure => simp [intOf]; omega
        | false =>
          have G := Lib.hid (D1.out _ _ _ hxy.out hr)
          rw [hr] at T
          clear hr hR hxy D1 D2
          go_wp2_with fail
          go_region_held3 (fun V => S3 N (some ⟨b, o, none⟩) n pc k m kc d l dc V ∧ S3 (N + 1) (some ⟨b', o', none⟩) n pc' k' m' kc' d' l' dc' V ∧ V.cell? ⟨b, o + j, none⟩ = some (.slice r m1 k1) ∧ V.cell? ⟨b', o' + j, none⟩ = some (.slice r' m2 k2)) (first | exact K0.out | assumption) (first | (go_at_call 32; refine T.out.mono ?_; rintro e w2 ⟨rfl, hc, h2⟩))
          go_wp2
          go_ret
          exact ⟨by rw [hg.out, G.out]; rfl, F.out _ h2⟩
      · obtain rfl : j = n := by omega
        have G := Lib.hid (D2.out hR.out)
        clear NP D1 D2 hR CD
        rw [G.out, Bool.true_and] at hg
        clear G
        cases q3
        · clear Td
          go_wp2_with (go_at_call 33; refine (Tk.out _ hB).mono ?_; rintro e w3 ⟨rfl, h3⟩; obtain ⟨⟨f5, f6, f7⟩, f8, f9, f10⟩ := CA.out _ h3)
          go_ret
          exact ⟨by rw [hg.out]; rfl, F.out _ h3⟩
        · go_wp2_with (first
            | (go_at_call 33; refine (Td.out _ h3).mono ?_; rintro e w4 ⟨rfl, h4⟩)
            | (go_at_call 33; refine (Tk.out _ hB).mono ?_; rintro e w3 ⟨rfl, h3⟩; obtain ⟨⟨f5, f6, f7⟩, f8, f9, f10⟩ := CA.out _ h3))
          go_ret
          exact ⟨by rw [hg.out]; cases q4 <;> rfl, F.out _ h4⟩
end Go.Proofs.Ytfhcgildokdppaa
