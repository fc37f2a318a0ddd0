/-
  ScriptLong walked: of every bytes and every number it returns true; what was in memory stays.
-/
import Derived.Test.YtfhcgildokdppaaPw
import Derived.Test.YtfhcgildokdppaaBr
import Derived.Deep.LoopGhost
namespace Go.Proofs.Ytfhcgildokdppaa
open Go.RowKit Go.Shelf tp
/-- bytes that lie anywhere appended to a row made since. -/
theorem cl_more {V0 W : World} {v : Value} {ys zs : List Nat} {a : Option Addr} {c : Nat} (h : Cl V0 v ys W) (hr : La e8 W a zs) (hn : a = none → zs = [] ∧ c = 0) (hl : ys.length + zs.length ≤ 100000000000000) (ty : TypeId) :
    ∃ v' w', (Builtin.append_ #[35, 35] ty #[v, .slice a zs.length c]).run Try.prog W = .ok v' w' ∧ ((∃ a k c, v' = .slice a k c) ∧ Cl V0 v' (ys ++ zs) w') := by
  obtain ⟨v', w', hrun, h1, h2⟩ := app_b h.1 hr hn hl h.2.size ty
  obtain ⟨a', c', hv⟩ := own_slice h1
  exact ⟨v', w', hrun, ⟨a', _, c', hv⟩, by rw [List.length_append]; exact h1, h.2.trans ((Keep.grown h2 fun k hk h' => by have := (World.ownsRow.lt h.1 k hk).1; omega).below (K := fun k => k < V0.heap.size) (fun _ h => h) h.2.size)⟩
/-- the row so far: of so many bytes. -/
def Al (w : World) (v : Value) (k : Nat) (W : World) : Prop := ∃ zs : List Nat, zs.length = k ∧ Bs zs ∧ Cl w v zs W
set_option maxRecDepth 100000 in
set_option maxHeartbeats 2000000 in
theorem long_walk (p : Option Addr) (bs : List Nat) (c : Nat) (num : Nat) (w : World) (hnum : num < 18446744073709551616) (hn : p = none → bs = [] ∧ c = 0) (hs : Bs bs) (hr : La e8 w p bs) :
    Calls Try.prog 6 #[.slice p bs.length c, .int .u64 (num : Int)] w fun e B => e = .returned (.bool true) ∧ Below w.heap.size w B := by
  have T8 := Lib.hid (awake8 w)
  by_cases h0 : bs.length = 0
  · have z1 : ¬ (40 : Int) < (bs.length : Int) := by omega
    have z2 : (((bs.length : Int)) == 0) = true := by simp [h0]
    clear hn hs hr
    generalize bs.length = n at *
    subst h0
    go_enter Try.func6, Try.ntmps6
    go_wp2_with fail
    refine T8.out.mono ?_
    rintro e w1 ⟨rfl, h1⟩
    go_wp2
    go_ret
    exact ⟨rfl, h1.out⟩
  by_cases h40 : bs.length ≤ 40
  · have MORE : Hid (∀ v k W, Hid (Al w v k W) → k ≤ 17000 → ∀ ty, ∃ v' w', (Builtin.append_ #[35, 35] ty #[v, .slice p bs.length c]).run Try.prog W = .ok v' w' ∧ ((∃ a k c, v' = .slice a k c) ∧ Hid (Al w v' (k + bs.length) w'))) := fun v k W h hk ty => by
      obtain ⟨zs, hz, hb, hC⟩ := h.out
      obtain ⟨v', w', hrun, hv, hC'⟩ := cl_more hC (hr.below hC.2) hn (by omega) ty
      exact ⟨v', w', hrun, hv, zs ++ bs, by simp [hz], bs_app hb hs, hC'⟩
    have START : Hid (Al w (.slice none 0 0) 0 w) := ⟨[], rfl, fun x h => (by cases h), World.ownsRow_nil _ _ _ _, Below.refl _ _⟩
    have LEN : Hid (∀ v k W, Hid (Al w v k W) → ∃ a c, v = .slice a k c) := fun v k W h => by
      obtain ⟨zs, hz, hb, hC⟩ := h.out
      rw [← hz]
      exact cl_sl hC
    have END : Hid (∀ k a c W, Hid (Al w (.slice a k c) k W) → k ≤ 17000 → ∃ s : Scr, s.ks.length ≤ 4096 ∧ Hid (Calls Try.prog 17 #[.slice a k c] W fun e B => ∃ q qc r rc t tc, e = .returned (svl s.c q s.ps.length qc r s.ks.length rc t s.ds.length tc) ∧ Hid (Sc B s ⟨q, qc, r, rc, t, tc⟩ ∧ Below W.heap.size W B)) ∧
        Hid (∀ q qc r rc t tc w1 N W1, Hid (Sc w1 s ⟨q, qc, r, rc, t, tc⟩ ∧ Below W.heap.size W w1) → w1.heap.size = N → w1.alloc (.cells (scl s.c q s.ps.length qc r s.ks.length rc t s.ds.length tc) 27) = W1 → After W N W1 (.slice a k c) s q qc r rc t tc) ∧ Hid (∀ B, Hid (Below W.heap.size W B) → Below w.heap.size w B)) := fun k a c W h hk => by
      obtain ⟨zs, rfl, hb, hC⟩ := h.out
      obtain ⟨q, c', e, g1, g2, g3, _⟩ := own_la hC.1
      injection e with e1 _ e2
      subst e1 e2
      have hR : rightS (parse (zs.take 16384)) := parse_right fun b hb' => hb b (List.mem_of_mem_take hb')
      exact ⟨_, hR.2.2.1.1, parse_any g3 g1 (by omega) hb g2 rfl, fun q qc r rc t tc w1 N W1 h hN hW => after_parse g3 g1 (by omega) hb g2 rfl h.out hN hW, fun B hB => hC.2.trans (hB.out.mono hC.2.size)⟩
    have z1 : ¬ (40 : Int) < (bs.length : Int) := by omega
    have z2 : ((bs.length : Int) == 0) = false := by rw [beq_eq_false_iff_ne]; omega
    clear hs hr hn T8
    generalize bs.length = n at *
    go_enter Try.func6, Try.ntmps6
    go_wp2_with fail
    obtain ⟨r, hr⟩ : ∃ r : Nat, num % 40 = r := ⟨_, rfl⟩
    have hr40 : r < 40 := by omega
    go_loopg [5] 20000 (fun g v wr => ∃ k a c, v = .slice a k c ∧ k ≤ 17000 ∧ g = 20000 - k ∧ Hid (Al w (.slice a k c) k wr))
    case atStart => exact ⟨0, _, _, rfl, by omega, by omega, START⟩
    case round =>
      obtain ⟨k, a, c2, rfl, hk, rfl, hM⟩ := hrel
      clear START
      by_cases hlt : (k : Int) < 16364 + (r : Int)
      · have A := MORE.out _ _ _ hM hk
        clear MORE hM
        go_wp2_with (at_builtin; refine app_step _ rfl _ _ 35 rfl _ _ rfl rfl (A _) ?_; rintro v3 w3 ⟨⟨a3, k3, c3, rfl⟩, q3⟩)
        obtain ⟨a4, c4, e4⟩ := LEN.out _ _ _ q3
        injection e4 with _ e5 _
        subst e5
        go_roundg (20000 - (k + n))
        case rel => exact ⟨k + n, _, _, rfl, by omega, by omega, q3⟩
        case measure => omega
      · obtain ⟨s, hks, T17, NX, FW⟩ := END.out _ _ _ _ hM hk
        clear MORE hM LEN END
        unfold After at NX
        obtain ⟨⟨m0, m1, m2, m3, m4⟩, ps, ks, ds⟩ := s
        simp only at *
        generalize ps.length = n2 at *
        generalize ks.length = m at *
        generalize ds.length = l at *
        have y1 : decide ((m : Int) ≤ 4096) = true := decide_eq_true (by omega)
        go_wp2_with fail
        refine T17.out.mono ?_
        rintro e w1 ⟨q, qc, r2, rc, t, tc, rfl, H1⟩
        obtain ⟨N, hN⟩ : ∃ N, w1.heap.size = N := ⟨_, rfl⟩
        obtain ⟨W, hW⟩ : ∃ W, w1.alloc (.cells #[.int .i64 m0, .int .i64 m1, .int .i64 m2, .int .i64 m3, .int .i64 m4, .slice q n2 qc, .slice r2 m rc, .slice t l tc] 27) = W := ⟨_, rfl⟩
        obtain ⟨K0, h0, T18, T15, T11, T10, T8⟩ := NX.out q qc r2 rc t tc w1 N W H1 hN hW
        clear T17 NX H1 T11
        replace K0 := Lib.hid K0
        go_wp2_with fail
        go_region_held3 (S8 N ⟨m0, m1, m2, m3, m4⟩ q n2 qc r2 m rc t l tc) (first | exact K0.out | assumption) (first
          | (go_at_call 8; refine (T8.out _ h4).mono ?_; rintro e v5 ⟨rfl, k5, h5⟩)
          | (go_at_call 10; refine (T10.out _ h2).mono ?_; rintro e v4 ⟨rfl, k4, h4⟩)
          | (go_at_call 15; refine (T15.out _ _ _ _ _ _ _ h1 hy).mono ?_; rintro e v2 ⟨rfl, k2, h2⟩)
          | (go_at_call 18; refine (T18.out _ h0).mono ?_; rintro e v1 ⟨q', qc', r', rc', t', tc', rfl, k1, hy, h1⟩))
        go_wp2
        go_ret
        exact ⟨rfl, FW.out _ h5⟩
  · have z1 : (40 : Int) < (bs.length : Int) := by omega
    clear hn hs hr
    generalize bs.length = n at *
    go_enter Try.func6, Try.ntmps6
    go_wp2_with fail
    refine T8.out.mono ?_
    rintro e w1 ⟨rfl, h1⟩
    go_wp2
    go_ret
    exact ⟨rfl, h1.out⟩
end Go.Proofs.Ytfhcgildokdppaa
