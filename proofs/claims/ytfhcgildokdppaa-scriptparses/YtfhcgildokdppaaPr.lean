/-
  The document's Parse by its contract, for every bytes (at most a million).
-/
import Derived.Test.YtfhcgildokdppaaPa
import Derived.Deep.LoopGhost
import Derived.Deep.Cut
import Derived.Deep.CutRange
namespace Go.Proofs.Ytfhcgildokdppaa
open Go.RowKit Go.Shelf tp
theorem b63 (q : Option Addr) (n c : Nat) (w : World) : (Instr.build 63 #[(0, .slice q n c)]).run Try.prog w = .ok (.agg #[.slice q n c, .int .i64 0]) w := by kernel_rfl
theorem b23 (a b c d e : Int) (W : World) : (Instr.build 23 #[(0, .int .i64 a), (1, .int .i64 b), (3, .int .i64 d), (4, .int .i64 e), (2, .int .i64 c)]).run Try.prog W = .ok (.agg #[.int .i64 a, .int .i64 b, .int .i64 c, .int .i64 d, .int .i64 e]) W := by kernel_rfl
/-- the result's box. -/
def Rn (N : Nat) (V : World) : Prop := V.heap[N]? = some (.cells (S8v ⟨0, 0, 0, 0, 0⟩ nl nl nl) 27 (0, 0))
abbrev Pn (cap : Nat) (w : World) (N : Nat) (q : Option Addr) (cs : List Nat) (a : Nat) (S : Array Value) (V : World) : Prop := Pf 63 cap w (fun j => j = N + 1) (N + 1) q cs a (N + 1 + 1) (N + 1 + 1 + 1) S (Rn N) V
/-- the boxes as they are made. -/
theorem boxn {w W : World} {N c m : Nat} {q : Option Addr} {cs : List Nat} (hN : w.heap.size = N) (hm : cs.length = m) (hc : m ≤ c) (hl : m ≤ 1000000) (hs : Bs cs) (hr : La e8 w q cs) (hn : q = none → cs = [] ∧ c = 0)
    (hW : ((w.alloc (.cells #[.int .i64 0, .int .i64 0, .int .i64 0, .int .i64 0, .int .i64 0, .slice none 0 0, .slice none 0 0, .slice none 0 0] 27)).alloc (.cells #[.slice q m c, .int .i64 0] 63)).alloc (.cells #[.int .i64 0, .int .i64 0, .int .i64 0, .int .i64 0, .int .i64 0, .slice none 0 0, .slice none 0 0, .slice none 0 0] 27) = W) : Pn c w N q cs 0 (S8v ⟨0, 0, 0, 0, 0⟩ nl nl nl) W := by
  subst hW
  subst hm
  have hq : ∀ b o, q = some ⟨b, o, none⟩ → 0 < cs.length → b < N := fun b o e h0 => hN ▸ hr.lt e h0
  obtain ⟨n0, n1, n2, n3⟩ := alloc_at hN (.cells (S8v ⟨0, 0, 0, 0, 0⟩ nl nl nl) 27)
  change Pn c w N q cs 0 (S8v ⟨0, 0, 0, 0, 0⟩ nl nl nl) (((w.alloc (.cells (S8v ⟨0, 0, 0, 0, 0⟩ nl nl nl) 27)).alloc (.cells #[.slice q cs.length c, .int .i64 0] 63)).alloc (.cells (S8v ⟨0, 0, 0, 0, 0⟩ nl nl nl) 27))
  generalize w.alloc (.cells (S8v ⟨0, 0, 0, 0, 0⟩ nl nl nl) 27) = W1 at *
  obtain ⟨c0, c1, c2, c3⟩ := alloc_at n1 (.cells #[.slice q cs.length c, .int .i64 0] 63)
  have d1 := c2 _ _ n0
  generalize W1.alloc (.cells #[.slice q cs.length c, .int .i64 0] 63) = W2 at *
  obtain ⟨e0, e1, e2, e3⟩ := alloc_at c1 (.cells (S8v ⟨0, 0, 0, 0, 0⟩ nl nl nl) 27)
  have f0 := e2 _ _ c0
  have f1 := e2 _ _ d1
  generalize W2.alloc (.cells (S8v ⟨0, 0, 0, 0, 0⟩ nl nl nl) 27) = W3 at *
  have k : Keep (fun _ => True) w W3 := (n3.trans c3).trans e3
  exact ⟨k.below (fun _ _ => trivial) (Nat.le_refl _), ⟨f0, hr.keep k fun _ _ _ _ => trivial, fun b o e h0 => by have := hq b o e h0; omega, hl, hs, Nat.zero_le _, hn, hc⟩, e0, f1, fun A B h hk => hk.heap h ⟨by omega, by omega, by omega⟩, fun j e => by subst e; omega, rfl, by omega, fun b o e h0 => by have := hq b o e h0; omega, by omega⟩
namespace Pf
variable {cap N : Nat} {w V : World} {q : Option Addr} {cs : List Nat} {a : Nat} {S : Array Value}
theorem nint (h : Pn cap w N q cs a S V) : Calls Try.prog 41 #[.pointer (some ⟨N + 1, 0, none⟩)] V fun e B => ∃ x, e = .returned (.int .i64 x) ∧ Hid (iv cs a = x) ∧ Hid (Pn cap w N q cs (ia cs a) S B) :=
  (int8 h.tape).mono fun _ _ ⟨he, hg⟩ => ⟨_, he, rfl, h.go hg.out⟩
theorem nsub (h : Pn cap w N q cs a S V) (n : Int) (hn : 1 ≤ n) (hn2 : n ≤ 256) : Calls Try.prog 42 #[.pointer (some ⟨N + 1, 0, none⟩), .int .i64 n] V fun e B => ∃ x : Int, e = .returned (.int .i64 x) ∧ 0 ≤ x ∧ x < n ∧ Hid ((bt cs a : Int) % n = x) ∧ Hid (Pn cap w N q cs (nx cs a) S B) :=
  (below_two h.tape n hn hn2).mono fun e B ⟨he, hg⟩ => ⟨_, he, Int.emod_nonneg _ (by omega), Int.emod_lt_of_pos _ (by omega), rfl, h.go hg.out⟩
theorem ncfg {a' : Nat} (i0 i1 i2 i3 i4 : Int) (h : Pn cap w N q cs a' (S8v ⟨0, 0, 0, 0, 0⟩ nl nl nl) V) : Calls Try.prog 12 #[.agg #[.int .i64 i0, .int .i64 i1, .int .i64 i2, .int .i64 i3, .int .i64 i4]] V fun e B => ∃ x0 x1 x2 x3 x4, e = .returned (.agg #[.int .i64 x0, .int .i64 x1, .int .i64 x2, .int .i64 x3, .int .i64 x4]) ∧ Cc (N + 1 + 1) ⟨0, 0, 0, 0, 0⟩ B ∧ (B.frozen? ⟨N + 1 + 1, 0, none⟩ = false ∧ B.frozen? ⟨N + 1 + 1, 1, none⟩ = false ∧ B.frozen? ⟨N + 1 + 1, 2, none⟩ = false ∧ B.frozen? ⟨N + 1 + 1, 3, none⟩ = false ∧ B.frozen? ⟨N + 1 + 1, 4, none⟩ = false) ∧
    Hid (∀ C, setC B (N + 1 + 1) ⟨x0, x1, x2, x3, x4⟩ = C → Hid (Pn cap w N q cs a' (S8v (near ⟨i0, i1, i2, i3, i4⟩) nl nl nl) C)) := by
  refine (refnearest12 ⟨i0, i1, i2, i3, i4⟩ V).mono fun e B ⟨he, hb⟩ => ?_
  obtain ⟨⟨x0, x1, x2, x3, x4⟩, hx⟩ : ∃ r, near ⟨i0, i1, i2, i3, i4⟩ = r := ⟨_, rfl⟩
  rw [hx] at he ⊢
  have hB : Pn cap w N q cs a' (S8v ⟨0, 0, 0, 0, 0⟩ nl nl nl) B := h.grow (Keep.of_below hb.out)
  refine ⟨x0, x1, x2, x3, x4, he, cellsS hB.box, ⟨hB.frozen 0, hB.frozen 1, hB.frozen 2, hB.frozen 3, hB.frozen 4⟩, fun C hC => ?_⟩
  subst hC
  have h5 := ((((hB.put 0 (.int .i64 x0)).put 1 (.int .i64 x1)).put 2 (.int .i64 x2)).put 3 (.int .i64 x3)).put 4 (.int .i64 x4)
  exact h5
end Pf
theorem cf_is {cs : List Nat} {x0 x1 x2 x3 x4 : Int} (h0 : iv cs 0 = x0) (h1 : (bt cs (q1 cs) : Int) % 64 = x1) (h2 : (bt cs (q2 cs) : Int) % 16 = x2) (h3 : (bt cs (q3 cs) : Int) % 65 = x3) (h4 : iv cs (q4 cs) = x4) : cf cs = ⟨x0, x1 + 1, x4, x2 + 1, x3⟩ := by
  unfold cf
  rw [h0, h4, ← h1, ← h2, ← h3]
  simp only [Cfg.mk.injEq, true_and]
  omega
set_option maxRecDepth 100000 in
set_option maxHeartbeats 8000000 in
theorem refparse18 (p : Option Addr) (bs : List Nat) (c : Nat) (w : World) (hn : p = none → bs = [] ∧ c = 0) (hc : bs.length ≤ c) (hl : bs.length ≤ 1000000) (hs : Bs bs) (hr : La e8 w p bs) :
    Calls Try.prog 18 #[.slice p bs.length c] w fun e B => ∃ x, e = .returned (sv (parse (bs.take 16384)) x) ∧ Hid (Sc B (parse (bs.take 16384)) x ∧ Below w.heap.size w B) := by
  obtain ⟨N, hN⟩ : ∃ N, w.heap.size = N := ⟨_, rfl⟩
  obtain ⟨cs, hcs⟩ : ∃ cs, bs.take 16384 = cs := ⟨_, rfl⟩
  obtain ⟨m, hm⟩ : ∃ m, cs.length = m := ⟨_, rfl⟩
  have hk : m = min bs.length 16384 := by rw [← hm, ← hcs, List.length_take]; omega
  have hbs : Bs cs := by rw [← hcs]; exact fun x hx => hs x (List.mem_of_mem_take hx)
  have ONE : Hid (La e8 w p cs ∧ (p = none → cs = [] ∧ c = 0)) := ⟨hcs ▸ La.take hr 16384 fun _ _ e => e, fun h => by
    obtain ⟨h1, h2⟩ := hn h
    exact ⟨by rw [← hcs, h1]; rfl, h2⟩⟩
  have TWO : 16384 < bs.length → ∃ p', (∀ W', (Instr.slice 35 (.slice p bs.length c) none (some (.int .i64 16384)) none).run Try.prog W' = .ok (.slice p' 16384 c) W') ∧ Hid (La e8 w p' cs ∧ (p' = none → cs = [] ∧ c = 0)) := fun h => by
    obtain ⟨p', h1, h2, h3⟩ := cut_h p bs.length c 16384 (by omega) hc
    exact ⟨p', h1, hcs ▸ La.take hr 16384 h2, fun e => by
      obtain ⟨e1, _⟩ := hn (h3 e)
      rw [e1] at h
      simp at h⟩
  have BX : Hid (∀ q W, Hid (La e8 w q cs ∧ (q = none → cs = [] ∧ c = 0)) → ((w.alloc (.cells #[.int .i64 0, .int .i64 0, .int .i64 0, .int .i64 0, .int .i64 0, .slice none 0 0, .slice none 0 0, .slice none 0 0] 27)).alloc (.cells #[.slice q m c, .int .i64 0] 63)).alloc (.cells #[.int .i64 0, .int .i64 0, .int .i64 0, .int .i64 0, .int .i64 0, .slice none 0 0, .slice none 0 0, .slice none 0 0] 27) = W → Hid (Pn c w N q cs 0 (S8v ⟨0, 0, 0, 0, 0⟩ nl nl nl) W)) := fun q W h hW => boxn hN hm (by omega) (by omega) hbs h.out.1 h.out.2 hW
  rw [hcs]
  have B63 : ∀ q, ∀ W, _ := fun q W => b63 q m c W
  clear hr hs hn hcs
  generalize bs.length = n at *
  replace hk := Lib.hid hk
  go_enter Try.func18, Try.ntmps18
  go_upto_if 14 with fail
  go_cut [0] from 12 to 16 (fun u wx => ∃ q, u = .slice q m c ∧ wx = w.alloc (.cells #[.int .i64 0, .int .i64 0, .int .i64 0, .int .i64 0, .int .i64 0, .slice none 0 0, .slice none 0 0, .slice none 0 0] 27) ∧ Hid (La e8 w q cs ∧ (q = none → cs = [] ∧ c = 0)))
  case first =>
    clear BX
    by_cases hb : 16384 < n
    · have hb1 : (16384 : Int) < (n : Int) := by omega
      have hb2 : (16384 : Int) ≤ (c : Int) := by omega
      obtain ⟨p', hcut, LP⟩ := TWO hb
      obtain rfl : m = 16384 := by have := hk.out; omega
      clear TWO ONE hk
      go_wp2_with fail
      go_meet
      exact ⟨p', rfl, rfl, LP⟩
    · have hb1 : ¬ (16384 : Int) < (n : Int) := by omega
      obtain rfl : m = n := by have := hk.out; omega
      clear TWO hk
      go_wp2_with fail
      go_meet
      exact ⟨p, rfl, rfl, ONE⟩
  case rest =>
  obtain ⟨q, rfl, rfl, LQ⟩ := hcut
  have P0 := BX.out q _ LQ rfl
  clear BX TWO ONE LQ
  go_wp2_with fail
  refine P0.out.nint.mono ?_
  rintro e w1 ⟨x0, rfl, e0, P1⟩
  clear P0
  go_wp2_with fail
  refine (P1.out.nsub 64 (by decide) (by decide)).mono ?_
  rintro e w2 ⟨x1, rfl, l1, u1, e1, P2⟩
  clear P1
  go_wp2_with fail
  refine (P2.out.nsub 16 (by decide) (by decide)).mono ?_
  rintro e w3 ⟨x2, rfl, l2, u2, e2, P3⟩
  clear P2
  go_wp2_with fail
  refine (P3.out.nsub 65 (by decide) (by decide)).mono ?_
  rintro e w4 ⟨x3, rfl, l3, u3, e3, P4⟩
  clear P3
  have B23 := b23
  go_wp2_with fail
  refine P4.out.nint.mono ?_
  rintro e w5 ⟨x4, rfl, e4, P5⟩
  clear P4
  go_wp2_with fail
  refine (P5.out.ncfg _ _ _ _ _).mono ?_
  rintro e w6 ⟨y0, y1, y2, y3, y4, rfl, ⟨d0, d1, d2, d3, d4⟩, ⟨g0, g1, g2, g3, g4⟩, E6⟩
  have P6 := E6.out _ rfl
  have hcf := cf_is e0.out e1.out e2.out e3.out e4.out
  rw [← hcf] at P6
  clear E6 hcf P5 e0 e1 e2 e3 e4 B23
  go_wp2_with fail
  refine (P6.out.nsub 7 (by decide) (by decide)).mono ?_
  rintro e w7 ⟨x7, rfl, l7, u7, e7, P7⟩
  clear P6 d0 d1 d2 d3 d4 g0 g1 g2 g3 g4 l1 u1 l2 u2 l3 u3
  obtain rfl : x7 = (np cs : Int) := e7.out.symm.trans (by
    show (bt cs (q5 cs) : Int) % 7 = _
    unfold np
    omega)
  clear e7 l7 u7
  have hnp : np cs < 7 := Nat.mod_lt _ (by decide)
  obtain ⟨cN, hcN⟩ : ∃ r, near (cf cs) = r := ⟨_, rfl⟩
  rw [hcN] at P7
  have S1 : Hid (L1 63 c w (fun j => j = N + 1) (N + 1) q cs (N + 1 + 1) (N + 1 + 1 + 1) cN (Rn N) 0 nl w7) := L1.start P7.out
  have STEP1 : Hid (∀ j v V, j < np cs → Hid (L1 63 c w (fun j => j = N + 1) (N + 1) q cs (N + 1 + 1) (N + 1 + 1 + 1) cN (Rn N) j v V) → V.drew.cell? ⟨N + 1 + 1, 5, none⟩ = some v ∧
      Hid (Calls Try.prog 43 #[.pointer (some ⟨N + 1, 0, none⟩)] V.drew fun e B => ∃ p n m, e = .returned (.slice p n m) ∧ B.cell? ⟨N + 1 + 1, 5, none⟩ = some v ∧ (B.alloc (.cells #[.slice p n m] 30)).cell? ⟨N + 1 + 1, 5, none⟩ = some v ∧ Hid (∀ ty, ∃ v' w', (Builtin.append_ #[24, 24] ty #[v, .slice (some ⟨B.heap.size, 0, none⟩) 1 1]).run Try.prog (B.alloc (.cells #[.slice p n m] 30)) = .ok v' w' ∧
      ((∃ p c, v' = .slice p (j + 1) c) ∧ w'.cell? ⟨N + 1 + 1, 5, none⟩ = some v ∧ w'.frozen? ⟨N + 1 + 1, 5, none⟩ = false ∧ Hid (L1 63 c w (fun j => j = N + 1) (N + 1) q cs (N + 1 + 1) (N + 1 + 1 + 1) cN (Rn N) (j + 1) v' (w'.setCell ⟨N + 1 + 1, 5, none⟩ v')))))) := fun j v V hj h =>
    have hd := h.out.drew
    ⟨hd.1.cell 5, hd.step (read_r hd.1.tape) (by omega)⟩
  have hds : nd cs ≤ 255 := by
    have := bt_lt hbs (q7 cs)
    unfold nd
    omega
  have END1 : Hid (∀ v V, Hid (L1 63 c w (fun j => j = N + 1) (N + 1) q cs (N + 1 + 1) (N + 1 + 1 + 1) cN (Rn N) (np cs) v V) → ∃ a1 n1, v = .slice a1 (np cs) n1 ∧ Hid (Calls Try.prog 44 #[.pointer (some ⟨N + 1, 0, none⟩)] V fun e B => e = .returned (.int .i64 (nd cs : Int)) ∧
      Hid (L2 63 c w (fun j => j = N + 1) (N + 1) q cs (N + 1 + 1) B.heap.size cN (R2 (Rn N) (N + 1 + 1 + 1) V.heap.size v (ppl cs (q6 cs) (np cs))) v 0 nl B ∧ N + 1 + 1 + 1 ≤ V.heap.size ∧ V.heap.size ≤ B.heap.size))) := fun v V h => by
    obtain ⟨a1, n1, hv⟩ := h.out.sl
    refine ⟨a1, n1, hv, (byte10 h.out.1.tape).mono fun e B ⟨he, hB⟩ => ⟨he, ?_⟩⟩
    have hp' := h.out.1.go hB.out
    exact ⟨L2.start (h := hp') (hL := h.out.2.keep hB.out.2 fun j hj _ => by omega) hB.out.2.size, h.out.1.hZ, hB.out.2.size⟩
  clear P7 hk
  generalize hnn : np cs = nn at *
  go_wp2_with fail
  go_loopw [10] (fun i wr => ∃ j : Nat, j ≤ nn ∧ i = .int .i64 j ∧ ∃ v, Hid (L1 63 c w (fun j => j = N + 1) (N + 1) q cs (N + 1 + 1) (N + 1 + 1 + 1) cN (Rn N) j v wr)) (fun i _ => nn - (intOf i).toNat)
  case atStart => exact ⟨0, by omega, rfl, _, S1⟩
  case round =>
    obtain ⟨j, hj, rfl, v, hR⟩ := hrel
    clear S1
    by_cases hlt : j < nn
    · obtain ⟨c5, T⟩ := STEP1.out j v _ hlt hR
      clear STEP1 END1 hR
      go_wp2_with fail
      go_region_law (first | (go_simp; go_at_call 43; refine T.out.mono ?_; rintro e w9 ⟨p2, n2, m2, rfl, d5, d6, A⟩) | (refine step_ex _ (by rfl) _ _ 24 (by rfl) _ _ (by rfl) (by rfl) (A.out _) ?_; rintro v3 w10 ⟨⟨a3, c3, rfl⟩, g5, f5, q5⟩))
      all_goals (
        go_wp2
        go_roundw
        case rel => exact ⟨j + 1, by omega, by simp, _, q5⟩
        case measure => simp [intOf]; omega)
    · obtain rfl : j = nn := by omega
      obtain ⟨a1, n1, rfl, T⟩ := END1.out v _ hR
      clear STEP1 END1 hR
      go_wp2_with fail
      refine T.out.mono ?_
      rintro e w9 ⟨rfl, h2⟩
      obtain ⟨S2, hz1, hz2⟩ := h2.out
      obtain ⟨Z2, hZ2⟩ : ∃ Z, w9.heap.size = Z := ⟨_, rfl⟩
      obtain ⟨Y1, hY1⟩ : ∃ Z, wr.heap.size = Z := ⟨_, rfl⟩
      rw [hZ2, hY1] at S2
      have hz3 : N < Z2 := by omega
      obtain ⟨Rb, hRb⟩ : ∃ R, R2 (Rn N) (N + 1 + 1 + 1) Y1 (.slice a1 j n1) (ppl cs (q6 cs) j) = R := ⟨_, rfl⟩
      rw [hRb] at S2
      have S2 := Lib.hid S2
      have HRb := Lib.hid hRb
      clear T h2 hz1 hz2 hZ2 hY1 hRb
      have STEP2 : Hid (∀ i d V, i < nd cs → Hid (L2 63 c w (fun j => j = N + 1) (N + 1) q cs (N + 1 + 1) Z2 cN Rb (.slice a1 j n1) i d V) → V.drew.cell? ⟨N + 1 + 1, 7, none⟩ = some d ∧
          Hid (Calls Try.prog 41 #[.pointer (some ⟨N + 1, 0, none⟩)] V.drew fun e B => ∃ x', e = .returned (.int .i64 x') ∧ B.cell? ⟨N + 1 + 1, 7, none⟩ = some d ∧ (B.alloc (.cells #[.int .i64 x'] 3)).cell? ⟨N + 1 + 1, 7, none⟩ = some d ∧ Hid (∀ ty, ∃ v' w', (Builtin.append_ #[25, 25] ty #[d, .slice (some ⟨B.heap.size, 0, none⟩) 1 1]).run Try.prog (B.alloc (.cells #[.int .i64 x'] 3)) = .ok v' w' ∧
          ((∃ p c, v' = .slice p (i + 1) c) ∧ w'.cell? ⟨N + 1 + 1, 7, none⟩ = some d ∧ w'.frozen? ⟨N + 1 + 1, 7, none⟩ = false ∧ Hid (L2 63 c w (fun j => j = N + 1) (N + 1) q cs (N + 1 + 1) Z2 cN Rb (.slice a1 j n1) (i + 1) v' (w'.setCell ⟨N + 1 + 1, 7, none⟩ v')))))) := fun i d V hi h =>
        have hd := h.out.drewN 1
        ⟨hd.1.cell 7, hd.step (int8 hd.1.tape) (by omega)⟩
      have END2 : Hid (∀ d V, Hid (L2 63 c w (fun j => j = N + 1) (N + 1) q cs (N + 1 + 1) Z2 cN Rb (.slice a1 j n1) (nd cs) d V) → ∃ a2 n2 Z3 Rc, d = .slice a2 (nd cs) n2 ∧ Hid (R3 Rb Z2 Z3 d (dl cs (q8 cs) (nd cs)) = Rc ∧ N < Z3) ∧ Hid (L3 63 c w (fun j => j = N + 1) (N + 1) q cs (N + 1 + 1) Z3 cN Rc (.slice a1 j n1) d 0 nl V)) := fun d V h => by
        obtain ⟨a2, n2, hd⟩ := h.out.sl
        exact ⟨a2, n2, _, _, hd, ⟨rfl, by have := h.out.1.hZ; omega⟩, L3.start h.out⟩
      generalize hdd : nd cs = dd at *
      go_wp2_with fail
      go_loopw [11] (fun i wr => ∃ k : Nat, k ≤ dd ∧ i = .int .i64 k ∧ ∃ d, Hid (L2 63 c w (fun j => j = N + 1) (N + 1) q cs (N + 1 + 1) Z2 cN Rb (.slice a1 j n1) k d wr)) (fun i _ => dd - (intOf i).toNat)
      case atStart => exact ⟨0, by omega, rfl, _, S2⟩
      case round =>
        obtain ⟨k, hk, rfl, d, hR⟩ := hrel
        clear S2
        by_cases hlt : k < dd
        · obtain ⟨c5, T⟩ := STEP2.out k d _ hlt hR
          clear STEP2 END2 hR
          go_wp2_with fail
          go_region_law (first | (go_simp; go_at_call 41; refine T.out.mono ?_; rintro e w10 ⟨x', rfl, d5, d6, A⟩) | (refine step_ex _ (by rfl) _ _ 25 (by rfl) _ _ (by rfl) (by rfl) (A.out _) ?_; rintro v3 w11 ⟨⟨a3, c3, rfl⟩, g5, f5, q5⟩))
          all_goals (
            go_wp2
            go_roundw
            case rel => exact ⟨k + 1, by omega, by simp, _, q5⟩
            case measure => simp [intOf]; omega)
        · obtain rfl : k = dd := by omega
          obtain ⟨a2, n2, Z3, Rc, rfl, hRc, S3⟩ := END2.out d _ hR
          clear STEP2 END2 hR
          have hk6 : nk cs ≤ 4096 := by
            unfold nk
            omega
          have STEP3 : Hid (∀ i d V u, i < nk cs → Hid (L3 63 c w (fun j => j = N + 1) (N + 1) q cs (N + 1 + 1) Z3 cN Rc (.slice a1 j n1) (.slice a2 k n2) i d V) →
              Hid (Calls Try.prog 44 #[.pointer (some ⟨N + 1, 0, none⟩)] (V.drewN u) fun e B => ∃ x', e = .returned (.int .i64 x') ∧ B.cell? ⟨N + 1 + 1, 6, none⟩ = some d ∧ (B.alloc (.cells #[.int .i64 x'] 3)).cell? ⟨N + 1 + 1, 6, none⟩ = some d ∧ Hid (∀ ty, ∃ v' w', (Builtin.append_ #[25, 25] ty #[d, .slice (some ⟨B.heap.size, 0, none⟩) 1 1]).run Try.prog (B.alloc (.cells #[.int .i64 x'] 3)) = .ok v' w' ∧
              ((∃ p c, v' = .slice p (i + 1) c) ∧ w'.cell? ⟨N + 1 + 1, 6, none⟩ = some d ∧ w'.frozen? ⟨N + 1 + 1, 6, none⟩ = false ∧ Hid (L3 63 c w (fun j => j = N + 1) (N + 1) q cs (N + 1 + 1) Z3 cN Rc (.slice a1 j n1) (.slice a2 k n2) (i + 1) v' (w'.setCell ⟨N + 1 + 1, 6, none⟩ v')))))) := fun i d V u hi h =>
            have hd := h.out.drewN u
            hd.step (byte10 hd.1.tape) (by omega)
          have hpar : parse cs = ⟨cN, ppl cs (q6 cs) j, kl cs (q9 cs) (nk cs), dl cs (q8 cs) k⟩ := by
            unfold parse
            rw [hcN, hnn, hdd]
          have hsv : ∀ x, sv (parse cs) x = svl cN x.p j x.pc x.k (nk cs) x.kc x.d k x.dc := fun x => by rw [sv_parse, hcN, hnn, hdd]
          obtain ⟨m0, m1, m2, m3, m4⟩ := cN
          have FIN : Hid (∀ d V, Hid (L3 63 c w (fun j => j = N + 1) (N + 1) q cs (N + 1 + 1) Z3 ⟨m0, m1, m2, m3, m4⟩ Rc (.slice a1 j n1) (.slice a2 k n2) (nk cs) d V) → ∃ a3 n3, d = .slice a3 (nk cs) n3 ∧ At8 V N (.int .i64 0) (.int .i64 0) (.int .i64 0) (.int .i64 0) (.int .i64 0) nl nl nl ∧ Fz8 V N ∧ At8 V (N + 1 + 1) (.int .i64 m0) (.int .i64 m1) (.int .i64 m2) (.int .i64 m3) (.int .i64 m4) (.slice a1 j n1) (.slice a3 (nk cs) n3) (.slice a2 k n2) ∧
              Hid (∀ C, set8 V N (.int .i64 m0) (.int .i64 m1) (.int .i64 m2) (.int .i64 m3) (.int .i64 m4) (.slice a1 j n1) (.slice a3 (nk cs) n3) (.slice a2 k n2) = C → At8 C N (.int .i64 m0) (.int .i64 m1) (.int .i64 m2) (.int .i64 m3) (.int .i64 m4) (.slice a1 j n1) (.slice a3 (nk cs) n3) (.slice a2 k n2) ∧ Hid (Sc C (parse cs) ⟨a1, n1, a3, n3, a2, n2⟩ ∧ Below w.heap.size w C))) := fun d V h => by
            obtain ⟨a3, n3, rfl⟩ := h.out.sl
            have h' := h.out
            rw [← hRc.out.1, ← HRb.out] at h'
            obtain ⟨f1, f2, f3, f4⟩ := h'.fin rfl hN.symm (by omega) hz3 hRc.out.2 fun V hV => hV
            rw [hpar]
            exact ⟨a3, n3, rfl, f1, f2, f3, f4⟩
          have NOW : Hid (∀ l d V, Hid (L3 63 c w (fun j => j = N + 1) (N + 1) q cs (N + 1 + 1) Z3 ⟨m0, m1, m2, m3, m4⟩ Rc (.slice a1 j n1) (.slice a2 k n2) l d V) → l ≤ nk cs → ∃ A a3 n3, d = .slice a3 l n3 ∧ V.cell? ⟨N + 1, 0, none⟩ = some (.slice q m c) ∧ V.cell? ⟨N + 1, 1, none⟩ = some (.int .i64 (A : Nat)) ∧ V.cell? ⟨N + 1 + 1, 6, none⟩ = some d ∧ ((l < nk cs ∧ A < m ∧ l < 4096) ∨ (l = nk cs ∧ ((A < m ∧ ¬ l < 4096) ∨ ¬ A < m)))) := fun l d V h hl => by
            obtain ⟨a3, n3, hd⟩ := h.out.sl
            have h9 := q9_le cs
            have hnk : nk cs = min (m - q9 cs) 4096 := by unfold nk; rw [hm]
            have hA : ad cs (q9 cs) l = q9 cs + l := ad_in l (by rw [hm]; omega)
            have c0 := h.out.1.tape.c0
            have c1 := h.out.1.tape.c1
            rw [hm] at c0
            rw [hA] at c1
            exact ⟨_, a3, n3, hd, c0, c1, h.out.1.cell 6, by omega⟩
          have GO : Hid (∀ l d V i, Hid (L3 63 c w (fun j => j = N + 1) (N + 1) q cs (N + 1 + 1) Z3 ⟨m0, m1, m2, m3, m4⟩ Rc (.slice a1 j n1) (.slice a2 k n2) l d V) → Hid (L3 63 c w (fun j => j = N + 1) (N + 1) q cs (N + 1 + 1) Z3 ⟨m0, m1, m2, m3, m4⟩ Rc (.slice a1 j n1) (.slice a2 k n2) l d (V.drewN i))) := fun l d V i h => h.out.drewN i
          replace hsv := Lib.hid hsv
          clear hpar HRb hRc
          generalize hkk : nk cs = kk at *
          go_wp2_with fail
          go_loopg [] kk (fun g wr => ∃ l : Nat, l ≤ kk ∧ g = kk - l ∧ ∃ d, Hid (L3 63 c w (fun j => j = N + 1) (N + 1) q cs (N + 1 + 1) Z3 ⟨m0, m1, m2, m3, m4⟩ Rc (.slice a1 j n1) (.slice a2 k n2) l d wr))
          case atStart => exact ⟨0, by omega, by omega, _, S3⟩
          case round =>
            obtain ⟨l, hl, rfl, d, hR⟩ := hrel
            clear S3
            obtain ⟨A, a3, n3, rfl, t0, t1, t2, hw⟩ := NOW.out l d _ hR hl
            clear NOW
            by_cases hlt : l < kk
            · have z0 : decide (A < m) = true := decide_eq_true (by omega)
              have z1 : decide ((l : Int) < 4096) = true := decide_eq_true (by omega)
              have z2 : (l : Int) < 4096 := by omega
              have T : Hid (∀ i, _) := fun i => STEP3.out l _ _ i hlt hR
              clear FIN STEP3 GO hR
              go_wp2_with fail
              go_quiet (fail)
              go_wp2_with fail
              clear t0 t1
              go_region_law (first | (go_simp; go_at_call 44; refine (T.out _).out.mono ?_; rintro e w11 ⟨x', rfl, d5, d6, A⟩) | (refine step_ex _ (by rfl) _ _ 25 (by rfl) _ _ (by rfl) (by rfl) (A.out _) ?_; rintro v3 w12 ⟨⟨a3, c3, rfl⟩, g5, f5, q5⟩))
              all_goals (
                go_wp2
                go_roundg (kk - (l + 1))
                case rel => exact ⟨l + 1, by omega, by omega, _, q5⟩
                case measure => omega)
            · obtain rfl : l = kk := by omega
              clear STEP3
              have FZ : Hid (∀ i C, set8 (wr.drewN i) N (.int .i64 m0) (.int .i64 m1) (.int .i64 m2) (.int .i64 m3) (.int .i64 m4) (.slice a1 j n1) (.slice a3 l n3) (.slice a2 k n2) = C → At8 C N (.int .i64 m0) (.int .i64 m1) (.int .i64 m2) (.int .i64 m3) (.int .i64 m4) (.slice a1 j n1) (.slice a3 l n3) (.slice a2 k n2) ∧ Hid (Sc C (parse cs) ⟨a1, n1, a3, n3, a2, n2⟩ ∧ Below w.heap.size w C)) := fun i => by
                have h1 := FIN.out _ _ (GO.out _ _ _ i hR)
                obtain ⟨b3, k3, e3, F⟩ := h1
                obtain ⟨e4, e5⟩ : a3 = b3 ∧ n3 = k3 := by
                  injection e3 with e3 _ e4
                  exact ⟨e3, e4⟩
                rw [e4, e5]
                exact F.2.2.2.out
              have FA : At8 wr N (.int .i64 0) (.int .i64 0) (.int .i64 0) (.int .i64 0) (.int .i64 0) nl nl nl ∧ Fz8 wr N ∧ At8 wr (N + 1 + 1) (.int .i64 m0) (.int .i64 m1) (.int .i64 m2) (.int .i64 m3) (.int .i64 m4) (.slice a1 j n1) (.slice a3 l n3) (.slice a2 k n2) := by
                have h1 := FIN.out _ _ hR
                obtain ⟨b3, k3, e3, F⟩ := h1
                obtain ⟨e4, e5⟩ : a3 = b3 ∧ n3 = k3 := by
                  injection e3 with e3 _ e4
                  exact ⟨e3, e4⟩
                rw [e4, e5]
                exact ⟨F.1, F.2.1, F.2.2.1⟩
              obtain ⟨⟨r0, r1, r2, r3, r4, r5, r6, r7⟩, ⟨f0, f1, f2, f3, f4, f5, f6, f7⟩, ⟨s0, s1, s2, s3, s4, s5, s6, s7⟩⟩ := FA
              clear FIN GO hR t2
              rcases (show (A < m ∧ ¬ l < 4096) ∨ ¬ A < m by omega) with ⟨hA, hl4⟩ | hA
              · have z0 : decide (A < m) = true := decide_eq_true hA
                have z1 : decide ((l : Int) < 4096) = false := decide_eq_false (by omega)
                have z2 : ¬ (l : Int) < 4096 := by omega
                go_wp2_with fail
                go_quiet (fail)
                go_wp2
                obtain ⟨C, hC⟩ : ∃ C, set8 (wr.drewN nq) N (.int .i64 m0) (.int .i64 m1) (.int .i64 m2) (.int .i64 m3) (.int .i64 m4) (.slice a1 j n1) (.slice a3 l n3) (.slice a2 k n2) = C := ⟨_, rfl⟩
                obtain ⟨⟨t0, t1, t2, t3, t4, t5, t6, t7⟩, F⟩ := FZ.out nq C hC
                unfold set8 at hC
                rw [hC]
                refine bodyPost_ret (v := svl ⟨m0, m1, m2, m3, m4⟩ a1 j n1 a3 l n3 a2 k n2) (by simp [results, Try.results18, go_sem, t0, t1, t2, t3, t4, t5, t6, t7]) rfl ⟨⟨a1, n1, a3, n3, a2, n2⟩, ?_, F⟩
                rw [hsv.out]
              · have z0 : decide (A < m) = false := decide_eq_false hA
                go_wp2_with fail
                go_quiet (fail)
                go_wp2
                obtain ⟨C, hC⟩ : ∃ C, set8 (wr.drewN nq) N (.int .i64 m0) (.int .i64 m1) (.int .i64 m2) (.int .i64 m3) (.int .i64 m4) (.slice a1 j n1) (.slice a3 l n3) (.slice a2 k n2) = C := ⟨_, rfl⟩
                obtain ⟨⟨t0, t1, t2, t3, t4, t5, t6, t7⟩, F⟩ := FZ.out nq C hC
                unfold set8 at hC
                rw [hC]
                refine bodyPost_ret (v := svl ⟨m0, m1, m2, m3, m4⟩ a1 j n1 a3 l n3 a2 k n2) (by simp [results, Try.results18, go_sem, t0, t1, t2, t3, t4, t5, t6, t7]) rfl ⟨⟨a1, n1, a3, n3, a2, n2⟩, ?_, F⟩
                rw [hsv.out]
end Go.Proofs.Ytfhcgildokdppaa
