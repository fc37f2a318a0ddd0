/-
  ProgReads walked: for every slice of bytes and every word it returns true, where the names read as they were laid; what was in memory stays.
-/
import Derived.Test.YtfpikafnakeijaaDoorAw
namespace Go.Proofs.YtfpikafnakeijaaDoor
open Go.RowKit Go.Shelf tp
/-- the program's tape and the document's, side by side. -/
structure Both (w : World) (D X c : Nat) (q p : Option Addr) (bs : List Nat) (cap a v : Nat) (V : World) : Prop where
  old : Below w.heap.size w V
  tape : Tp 55 c V D q bs a
  doc : Tp 38 cap V X p bs v
  ft : ∀ j, Ft D q bs j → w.heap.size ≤ j ∧ j ≠ X
  hX : w.heap.size ≤ X
  hp : ∀ b o, p = some ⟨b, o, none⟩ → 0 < bs.length → b < w.heap.size
namespace Both
variable {w V : World} {D X c : Nat} {q p : Option Addr} {bs : List Nat} {cap a v : Nat}
theorem below {B : World} (h : Both w D X c q p bs cap a v V) (g : Below V.heap.size V B) : Both w D X c q p bs cap a v B :=
  ⟨h.old.trans (g.mono h.old.size), h.tape.below g, h.doc.below g, h.ft, h.hX, h.hp⟩
/-- a program read from the program's tape. -/
theorem r16 (h : Both w D X c q p bs cap a v V) : Calls Tryd.prog 16 #[.pointer (some ⟨D, 0, none⟩)] V fun e B => ∃ r k, e = .returned (.slice r (pn bs a) k) ∧ Hid (Both w D X c q p bs cap (pz bs a) v B ∧ Ea B r (pl bs a) ∧ ∀ b o, r = some ⟨b, o, none⟩ → b ≠ X) := by
  refine (read16 h.tape).mono ?_
  rintro e B ⟨r, k, he, hR⟩
  obtain ⟨h1, h2, h3⟩ := hR.out
  refine ⟨r, k, he, ⟨h.old.trans (h2.2.1.below (fun j hj => ⟨by have := h.old.size; omega, fun hf => by have := (h.ft j hf).1; omega⟩) h.old.size), h1, ?_, h.ft, h.hX, h.hp⟩, ?_⟩
  · refine h.doc.keep h2.2.1 ⟨h.doc.lt, fun hf => (h.ft X hf).2 rfl⟩ fun b o hb h0 => ?_
    have := h.hp b o hb h0
    exact ⟨by have := h.old.size; omega, fun hf => by have := (h.ft b hf).1; omega⟩
  · have ho := h2.1
    obtain ⟨r', k', e', g1, g2, g3, g4⟩ := Ea.of_own ho
    injection e' with e1 _ _
    subst e1
    refine ⟨g2, fun b o hb e => ?_⟩
    have := g4 b o hb
    have := h.doc.lt
    omega
/-- a program read from the document's, beside a slice of calls. -/
theorem r18 {r : Option Addr} {l : List Opn} (h : Both w D X c q p bs cap a v V) (hl : Ea V r l) (hr : ∀ b o, r = some ⟨b, o, none⟩ → b ≠ X) :
    Calls Tryd.prog 18 #[.pointer (some ⟨X, 0, none⟩)] V fun e B => ∃ r' k, e = .returned (.slice r' (pn bs v) k) ∧ Hid (Both w D X c q p bs cap a (pz bs v) B ∧ Ea B r l ∧ Ea B r' (pl bs v)) := by
  refine (refread18 h.doc).mono ?_
  rintro e B ⟨r', k, he, hR⟩
  obtain ⟨h1, h2, h3⟩ := hR.out
  have hk : Keep (fun k => k < V.heap.size ∧ k ≠ X) V B := h2.2.1
  refine ⟨r', k, he, ⟨h.old.trans (hk.below (fun j hj => ⟨by have := h.old.size; omega, by have := h.hX; omega⟩) h.old.size), ?_, h1, h.ft, h.hX, h.hp⟩, ?_, ?_⟩
  · exact tp_keep h.tape hk fun j hj => ⟨hj.lt h.tape, (h.ft j hj).2⟩
  · exact hl.keep hk fun b o hb h0 => ⟨hl.lt hb h0, hr b o hb⟩
  · obtain ⟨q', k', e', g1, g2, g3, g4⟩ := Ea.of_own h2.1
    injection e' with e1 _ _
    subst e1
    exact g2
end Both
theorem build_ref (v : Option Addr) (n c : Nat) (w : World) : (Instr.build 38 #[(0, .slice v n c)]).run Tryd.prog w = .ok (.agg #[.slice v n c, .int .i64 0]) w := by kernel_rfl
theorem Both.start {w B : World} {D c : Nat} {q p : Option Addr} {bs : List Nat} {cap : Nat} (h : Nw w D c q bs B) (hr : La e8 w p bs) (hn : p = none → bs = [] ∧ cap = 0) (hc : bs.length ≤ cap) : Both w D B.heap.size c q p bs cap 0 0 (B.alloc (.cells #[.slice p bs.length cap, .int .i64 0] 38)) := by
  have hb : Below B.heap.size B (B.alloc (.cells #[.slice p bs.length cap, .int .i64 0] 38)) := (Below.refl _ _).alloc (Nat.le_refl _) _
  have hz := h.2.2.2.size
  refine ⟨h.2.2.2.trans (hb.mono hz), h.1.below hb, ⟨heap_next rfl _, (hr.below h.2.2.2).below hb, fun b o ha h0 => ?_, h.1.len, h.1.bys, Nat.zero_le _, hn, hc⟩, fun j hj => ⟨?_, ?_⟩, hz, fun b o hp h0 => hr.lt hp h0⟩
  · have := hr.lt ha h0
    omega
  · rcases hj with rfl | ⟨h0, o, hq⟩
    · exact h.2.1
    · exact h.2.2.1 _ _ hq
  · have := hj.lt h.1
    omega
set_option maxRecDepth 100000 in
set_option maxHeartbeats 4000000 in
theorem reads_walk (p : Option Addr) (cap : Nat) (bs : List Nat) (m : Nat) {w : World} (hN : Names w) (hm : m < 18446744073709551616) (hn : p = none → bs = [] ∧ cap = 0) (hc : bs.length ≤ cap) (hs : Bs bs) (hr : La e8 w p bs) :
    Calls Tryd.prog 4 #[.slice p bs.length cap, .int .u64 (m : Int)] w fun e B => e = .returned (.bool true) ∧ Below w.heap.size w B := by
  have T6 : Hid (∀ V, Hid (Below w.heap.size w V) → Calls Tryd.prog 6 #[] V fun e B => e = .returned (.bool true) ∧ Hid (Below w.heap.size w B)) := fun V h =>
    (awake6 (hN.below hN.1 h.out)).mono fun e B ⟨he, hB⟩ => ⟨he, h.out.trans (hB.out.mono h.out.size)⟩
  have B0 : Hid (Below w.heap.size w w) := Below.refl _ _
  by_cases hl : bs.length ≤ 300
  · have N6 := Lib.hid (new6 p bs cap w hn (by omega) hs hr)
    have S0 : Hid (∀ D c q B, Hid (Nw w D c q bs B) → Both w D B.heap.size c q p bs cap 0 0 (B.alloc (.cells #[.slice p bs.length cap, .int .i64 0] 38))) := fun D c q B h => Both.start h.out hr hn hc
    have OLD : Hid (∀ D X c q a V, Hid (Both w D X c q p bs cap a a V) → Hid (Below w.heap.size w V)) := fun D X c q a V h => h.out.old
    have T16 : Hid (∀ D X c q a V, Hid (Both w D X c q p bs cap a a V) → Calls Tryd.prog 16 #[.pointer (some ⟨D, 0, none⟩)] V fun e B => ∃ r n k, e = .returned (.slice r n k) ∧ Hid (n = (pl bs a).length ∧ Both w D X c q p bs cap (pz bs a) a B ∧ Ea B r (pl bs a) ∧ ∀ b o, r = some ⟨b, o, none⟩ → b ≠ X)) := fun D X c q a V h =>
      h.out.r16.mono fun e B ⟨r, k, he, hB⟩ => ⟨r, _, k, he, by unfold pl; rw [ql_len], hB.out⟩
    have T18 : Hid (∀ D X c q a r n V, Hid (n = (pl bs a).length ∧ Both w D X c q p bs cap (pz bs a) a V ∧ Ea V r (pl bs a) ∧ ∀ b o, r = some ⟨b, o, none⟩ → b ≠ X) → Calls Tryd.prog 18 #[.pointer (some ⟨X, 0, none⟩)] V.drew fun e B => ∃ r' n' k', e = .returned (.slice r' n' k') ∧ Hid (n = (pl bs a).length ∧ n' = (pl bs a).length ∧ Both w D X c q p bs cap (pz bs a) (pz bs a) B ∧ Ea B r (pl bs a) ∧ Ea B r' (pl bs a))) := fun D X c q a r n V h => by
      obtain ⟨h1, h2, h3, h4⟩ := h.out
      refine ((h2.below (below_drewN V 1)).r18 (h3.below (below_drewN V 1)) h4).mono ?_
      rintro e B ⟨r', k', he, hB⟩
      exact ⟨r', _, k', he, h1, by unfold pl; rw [ql_len], hB.out⟩
    have T17 : Hid (∀ D X c q a r n r' n' k k' V, Hid (n = (pl bs a).length ∧ n' = (pl bs a).length ∧ Both w D X c q p bs cap (pz bs a) (pz bs a) V ∧ Ea V r (pl bs a) ∧ Ea V r' (pl bs a)) → Calls Tryd.prog 17 #[.slice r n k, .slice r' n' k'] V fun e B => e = .returned (.bool true) ∧ Hid (n = (pl bs a).length ∧ Both w D X c q p bs cap (pz bs a) (pz bs a) B ∧ Ea B r (pl bs a))) := fun D X c q a r n r' n' k k' V h => by
      obtain ⟨rfl, rfl, h3, h4, h5⟩ := h.out
      refine (same17 r r' (pl bs a) (pl bs a) k k' V h4 h5 (by unfold pl; rw [ql_len]; have := pn_lt bs a; omega)).mono ?_
      rintro e B ⟨he, hB⟩
      exact ⟨by rw [he, decide_eq_true rfl], rfl, h3.below hB.out, h4.below hB.out⟩
    have T12 : Hid (∀ D X c q a r n k V, Hid (n = (pl bs a).length ∧ Both w D X c q p bs cap (pz bs a) (pz bs a) V ∧ Ea V r (pl bs a)) → Calls Tryd.prog 12 #[.slice r n k] V fun e B => e = .returned (.bool true) ∧ B.cell? ⟨X, 1, none⟩ = some (.int .i64 (pz bs a : Int)) ∧ Hid (Both w D X c q p bs cap (pz bs a) (pz bs a) B)) := fun D X c q a r n k V h => by
      obtain ⟨rfl, h3, h4⟩ := h.out
      refine (fine12 r (pl bs a) k V h4).mono ?_
      rintro e B ⟨he, hB⟩
      exact ⟨by rw [he, decide_eq_true (pl_fine bs a)], (h3.below hB.out).doc.c1, h3.below hB.out⟩
    have T19 : Hid (∀ D X c q a V, Hid (Both w D X c q p bs cap a a V) → Calls Tryd.prog 19 #[.pointer (some ⟨D, 0, none⟩)] V fun e B => e = .returned (.int .i64 (a : Int)) ∧ B.cell? ⟨X, 1, none⟩ = some (.int .i64 (a : Int)) ∧ Hid (Both w D X c q p bs cap a a B)) := fun D X c q a V h =>
      (at13 h.out.tape).mono fun e B ⟨he, hB⟩ => ⟨he, by rw [hB]; exact h.out.doc.c1, by rw [hB]; exact h⟩
    obtain ⟨t, ht, ht7⟩ : ∃ t : Nat, (m : Int) % 7 = (t : Int) ∧ t < 7 := ⟨m % 7, by omega, by omega⟩
    have hwt : IntKind.i64.wrap (t : Int) = (t : Int) := by rw [IntKind.wrap_i64]; omega
    clear hr hn hs hN
    generalize bs.length = n at *
    have z1 : ¬ (300 : Int) < (n : Int) := by omega
    have hb38 := build_ref p n cap
    go_enter Tryd.func4, Tryd.ntmps4
    go_wp2_with fail
    refine N6.out.mono ?_
    rintro e w1 ⟨D, c, q, rfl, N7⟩
    have H0 := Lib.hid (S0.out _ _ _ _ N7)
    clear N6 N7 S0 B0
    generalize hX : w1.heap.size = X at *
    go_wp2_with fail
    clear hb38
    go_loopw [7] (fun i wr => ∃ j : Nat, j ≤ t ∧ i = .int .i64 j ∧ ∃ a, Hid (Both w D X c q p bs cap a a wr)) (fun i _ => t - (intOf i).toNat)
    case atStart => exact ⟨0, by omega, rfl, 0, H0⟩
    case round =>
      obtain ⟨j, hj, rfl, a, hI⟩ := hrel
      clear H0
      by_cases hlt : j < t
      · have hjt : (j : Int) < (t : Int) := by omega
        have T := Lib.hid (T16.out _ _ _ _ _ _ hI)
        clear hI T16 OLD T6
        go_wp2_with fail
        refine T.out.mono ?_
        rintro e w2 ⟨r, nn, k, rfl, h0⟩
        have T18' := Lib.hid (T18.out _ _ _ _ _ _ _ _ h0)
        clear T T18 h0
        go_wp2_with fail
        go_region_with (first
          | (go_at_call 19; refine (T19.out _ _ _ _ _ _ h3).mono ?_; rintro e v4 ⟨rfl, k4, h4⟩)
          | (go_at_call 12; refine (T12.out _ _ _ _ _ _ _ _ _ h2).mono ?_; rintro e v3 ⟨rfl, k3, h3⟩)
          | (go_at_call 17; refine (T17.out _ _ _ _ _ _ _ _ _ _ _ _ h1).mono ?_; rintro e v2 ⟨rfl, h2⟩)
          | (go_at_call 18; refine T18'.out.mono ?_; rintro e v1 ⟨r', n', k', rfl, h1⟩))
        all_goals (
          go_wp2
          go_roundw
          case rel => exact ⟨j + 1, by omega, by simp, _, h4⟩
          case measure => simp [intOf]; omega)
      · obtain rfl : j = t := by omega
        have T := Lib.hid (T6.out _ (OLD.out _ _ _ _ _ _ hI))
        clear T6 OLD T16 T17 T18 T12 T19 hI
        go_wp2_with fail
        refine T.out.mono ?_
        rintro e w3 ⟨rfl, h3⟩
        go_wp2
        go_ret
        exact ⟨rfl, h3.out⟩
  · generalize bs.length = n at *
    have z1 : (300 : Int) < (n : Int) := by omega
    have T := Lib.hid (T6.out _ B0)
    clear hr hn hs hN T6
    go_enter Tryd.func4, Tryd.ntmps4
    go_wp2_with fail
    refine T.out.mono ?_
    rintro e w1 ⟨rfl, h1⟩
    go_wp2
    go_ret
    exact ⟨rfl, h1.out⟩
end Go.Proofs.YtfpikafnakeijaaDoor
