/-
  Bytes of package script by its contract: a right script's bytes; of another one none, and ErrArg.
-/
import Derived.Test.YtfhcgildokdppaaPa
import Derived.Test.YtfhcgildokdppaaPt
namespace Go.Proofs.Ytfhcgildokdppaa
open Go.RowKit Go.Shelf tp
/-- the bytes so far: of j programs, of j picks. -/
def bz (s : Scr) (j : Nat) : List Nat := ens (hd s) ++ eps (s.ps.take j)
def bk (s : Scr) (j : Nat) : List Nat := bz s s.ps.length ++ [s.ds.length] ++ ens s.ds ++ kb (s.ks.take j)
theorem bk_end (s : Scr) : bk s s.ks.length = byS s := by
  unfold bk bz byS
  simp
theorem bz_next (s : Scr) (j : Nat) (h : j < s.ps.length) : bz s j ++ ens (pus s.ps[j]) = bz s (j + 1) := by
  unfold bz
  rw [List.append_assoc, eps_take s.ps j h]
theorem bk_next (s : Scr) (j : Nat) (h : j < s.ks.length) : bk s j ++ [(s.ks[j] % 256).toNat] = bk s (j + 1) := by
  unfold bk
  rw [List.append_assoc, kb_take s.ks j h]
theorem bz_len {s : Scr} (h : rightS s) (j : Nat) : (bz s j).length ≤ 7000 := by
  obtain ⟨_, ⟨h1, h2⟩, _⟩ := h
  have e1 := ens_len (hd s)
  have e2 := eps_len (s.ps.take j) fun l hl => h2 l (List.mem_of_mem_take hl)
  have e5 : (hd s).length = 6 := rfl
  rw [List.length_take] at e2
  unfold bz
  simp only [List.length_append]
  omega
theorem bk_len {s : Scr} (h : rightS s) (j : Nat) : (bk s j).length ≤ 14000 := by
  have e1 := bz_len h s.ps.length
  have e3 := ens_len s.ds
  have h4 := h.2.2.2
  have h3 := h.2.2.1.1
  unfold bk kb
  simp only [List.length_append, List.length_cons, List.length_nil, List.length_map, List.length_take]
  omega
theorem hd_ok {s : Scr} (h : rightS s) : ∀ x ∈ hd s, I64 x := by
  obtain ⟨b0, b1, b2, b3, b4⟩ := near_bounds h.1
  have h6 := h.2.1.1
  intro x hx
  unfold I64
  simp [hd] at hx
  rcases hx with rfl | rfl | rfl | rfl | rfl | rfl <;> omega
/-- a row of bytes made since a later world is one made since an earlier one. -/
theorem cl_up {V0 V B : World} {v : Value} {zs : List Nat} (hb : Below V0.heap.size V0 V) (h : Cl V v zs B) : Cl V0 v zs B := ⟨own_mono h.1 hb.size, hb.trans (h.2.mono hb.size)⟩
theorem cl_sl {V0 B : World} {v : Value} {zs : List Nat} (h : Cl V0 v zs B) : ∃ a c, v = .slice a zs.length c := own_slice h.1
theorem notlong47 (a : Option Addr) (k c : Nat) (w : World) (h : k ≤ 16384) : Calls Try.prog 47 #[.slice a k c] w fun e B => e = .returned (.tuple #[.slice a k c, .int .i64 0]) ∧ B = w := by
  have z : ¬ (16384 : Int) < (k : Int) := by omega
  clear h
  go_enter Try.func47, Try.ntmps47
  go_wp2
  go_ret2
  exact ⟨rfl, rfl⟩
set_option maxHeartbeats 2000000 in
theorem bytes19_not (s : Scr) (x : Ad) (w : World) (h : Sc w s x) (hf : ¬ rightS s) : Calls Try.prog 19 #[sv s x] w fun e B => e = .returned (.tuple #[.slice none 0 0, .int .i64 1]) ∧ Hid (Below w.heap.size w B) := by
  obtain ⟨N, hN⟩ : ∃ N, w.heap.size = N := ⟨_, rfl⟩
  change Calls Try.prog 19 #[svl s.c x.p s.ps.length x.pc x.k s.ks.length x.kc x.d s.ds.length x.dc] w _
  obtain ⟨V0, hV0⟩ : ∃ V0, w.alloc (.cells (scl s.c x.p s.ps.length x.pc x.k s.ks.length x.kc x.d s.ds.length x.dc) 27) = V0 := ⟨_, rfl⟩
  have hb : Below w.heap.size w V0 := by rw [← hV0]; exact (Below.refl _ _).alloc (Nat.le_refl _) _
  have hO : V0.heap[N]? = some (.cells (scs s x) 27 (0, 0)) := by rw [← hV0]; exact heap_next hN.symm _
  have C3 := cells3 hO
  have C1 := cellsS hO
  have T10 : Hid (Calls Try.prog 10 #[svl s.c x.p s.ps.length x.pc x.k s.ks.length x.kc x.d s.ds.length x.dc] V0 fun e B => e = .returned (.bool false) ∧ Hid (Below w.heap.size w B)) := by
    have := right10 s x V0 (h.below hb)
    rw [decide_eq_false hf] at this
    exact this.mono fun e B ⟨he, hB⟩ => ⟨he, hb.trans (hB.out.mono hb.size)⟩
  clear h hf hb hO
  obtain ⟨⟨mx, bu, co, ba, bi⟩, ps, ks, ds⟩ := s
  obtain ⟨p, pc, k, kc, d, dc⟩ := x
  simp only at *
  generalize ps.length = n at *
  generalize ks.length = m at *
  generalize ds.length = l at *
  obtain ⟨c0, c1, c2, c3, c4⟩ := C1
  obtain ⟨c5, c6, c7⟩ := C3
  go_enter Try.func19, Try.ntmps19
  go_wp2_with fail
  refine T10.out.mono ?_
  rintro e w1 ⟨rfl, h1⟩
  go_wp2
  go_ret2
  exact ⟨rfl, h1⟩
set_option maxRecDepth 100000 in
set_option maxHeartbeats 4000000 in
theorem bytes19 (s : Scr) (x : Ad) (w : World) (h : Sc w s x) (hf : rightS s) (ho : s.ok) : Calls Try.prog 19 #[sv s x] w fun e B => ∃ v k c, e = .returned (.tuple #[.slice v k c, .int .i64 0]) ∧ Hid (Pb w v k c (byS s) B) := by
  obtain ⟨N, hN⟩ : ∃ N, w.heap.size = N := ⟨_, rfl⟩
  change Calls Try.prog 19 #[svl s.c x.p s.ps.length x.pc x.k s.ks.length x.kc x.d s.ds.length x.dc] w _
  obtain ⟨V0, hV0⟩ : ∃ V0, w.alloc (.cells (scl s.c x.p s.ps.length x.pc x.k s.ks.length x.kc x.d s.ds.length x.dc) 27) = V0 := ⟨_, rfl⟩
  have hb : Below w.heap.size w V0 := by rw [← hV0]; exact (Below.refl _ _).alloc (Nat.le_refl _) _
  have hO : V0.heap[N]? = some (.cells (scs s x) 27 (0, 0)) := by rw [← hV0]; exact heap_next hN.symm _
  have hN0 : N < V0.heap.size := heap_lt hO
  have C3 := cells3 hO
  have C1 := cellsS hO
  have hS := h.below hb
  have K3 : ∀ V, Below V0.heap.size V0 V → S3 N x.p s.ps.length x.pc x.k s.ks.length x.kc x.d s.ds.length x.dc V := fun V hV => cells3 ((hV.block N hN0).trans hO)
  have K1 : ∀ V, Below V0.heap.size V0 V → Cc N s.c V := fun V hV => cellsS ((hV.block N hN0).trans hO)
  obtain ⟨b0, b1, b2, b3, b4⟩ := near_bounds hf.1
  have h6 := hf.2.1.1
  have h255 := hf.2.2.2
  have hks6 := hf.2.2.1.1
  -- Right, then the literal of six numbers and Put of it
  have T10 : Hid (Calls Try.prog 10 #[svl s.c x.p s.ps.length x.pc x.k s.ks.length x.kc x.d s.ds.length x.dc] V0 fun e B => e = .returned (.bool true) ∧ Cc N s.c B ∧ Hid (Below V0.heap.size V0 B)) := by
    have := right10 s x V0 hS
    rw [decide_eq_true hf] at this
    exact this.mono fun e B ⟨he, hB⟩ => ⟨he, K1 B hB.out, hB⟩
  have T45 : Hid (∀ V W, Hid (Below V0.heap.size V0 V) → V.alloc (.cells (ccs s.c) 23) = W → Cc V.heap.size s.c W ∧ S3 N x.p s.ps.length x.pc x.k s.ks.length x.kc x.d s.ds.length x.dc W ∧ Hid (Calls Try.prog 45 #[.slice none 0 0, .slice (some ⟨W.heap.size, 0, none⟩) 6 6] (W.alloc (.cells #[.int .i64 s.c.mx, .int .i64 (s.c.bu - 1), .int .i64 (s.c.ba - 1), .int .i64 s.c.bi, .int .i64 s.c.co, .int .i64 (s.ps.length : Int)] 3)) fun e B => ∃ v k c, e = .returned (.slice v k c) ∧ S3 N x.p s.ps.length x.pc x.k s.ks.length x.kc x.d s.ds.length x.dc B ∧ Hid (Cl V0 (.slice v k c) (bz s 0) B))) := fun V W hV hW => by
    have hW' : Below V0.heap.size V0 W := by rw [← hW]; exact hV.out.alloc hV.out.size _
    have hL : Below V0.heap.size V0 (W.alloc (.cells #[.int .i64 s.c.mx, .int .i64 (s.c.bu - 1), .int .i64 (s.c.ba - 1), .int .i64 s.c.bi, .int .i64 s.c.co, .int .i64 (s.ps.length : Int)] 3)) := hW'.alloc hW'.size _
    refine ⟨cellsC (by rw [← hW]; exact heap_next rfl _), K3 W hW', ?_⟩
    refine (put16 none 0 [] (some ⟨W.heap.size, 0, none⟩) 6 (hd s) _ (fun _ => ⟨rfl, rfl⟩) (by simp) (La.nil _ _) (by show 6 ≤ _; omega) (la_lit' W 3 _ (hd s) rfl) (hd_ok hf)).mono ?_
    rintro e B ⟨v, k, c, he, _, hB⟩
    have := cl_up hL hB.out
    rw [List.nil_append, show ens (hd s) = bz s 0 by unfold bz; simp [eps]] at this
    exact ⟨v, k, c, he, K3 B this.2, this⟩
  have T46 : Hid (∀ j v W, j < s.ps.length → Hid (Cl V0 v (bz s j) W) → ∃ (b o : Nat) (q : Option Addr) (m k : Nat), x.p = some ⟨b, o, none⟩ ∧ W.cell? ⟨b, o + j, none⟩ = some (.slice q m k) ∧ Hid (Calls Try.prog 46 #[v, .slice q m k] W fun e B => ∃ a' k' c', e = .returned (.tuple #[.slice a' k' c', .bool true]) ∧ Hid (Cl V0 (.slice a' k' c') (bz s (j + 1)) B))) := fun j v W hj hW => by
    obtain ⟨b, o, q, k, hp, hc⟩ := nowP hS.ps j hj
    obtain ⟨e1, e2⟩ := hc.out W hW.out.2
    obtain ⟨a, c, rfl⟩ := cl_sl hW.out
    obtain ⟨a', c', e', g1, g2, g3, _⟩ := own_la hW.out.1
    injection e' with i1 _ i2
    subst i1 i2
    have hm := List.getElem_mem hj
    refine ⟨b, o, q, _, k, hp, e1, (put20 a c (bz s j) q k s.ps[j] W g3 (by have := bz_len hf j; omega) g2 e2 (ho.2.1 _ hm) (hf.2.1.2 _ hm)).mono ?_⟩
    rintro e B ⟨v, k', c', he, hB⟩
    have := cl_up hW.out.2 hB.out.2
    rw [bz_next s j hj] at this
    exact ⟨v, k', c', he, this⟩
  have hw8 : IntKind.u8.wrap (s.ds.length : Int) = (s.ds.length : Int) := by rw [IntKind.wrap_u8']; omega
  have END1 : Hid (∀ v W, Hid (Cl V0 v (bz s s.ps.length) W) → W.drew.cell? ⟨N, 7, none⟩ = some (.slice x.d s.ds.length x.dc) ∧ (W.alloc (.cells #[.int .u8 (s.ds.length : Int)] 5)).drew.cell? ⟨N, 7, none⟩ = some (.slice x.d s.ds.length x.dc) ∧ Hid (∀ ty, ∃ v' w', (Builtin.append_ #[35, 35] ty #[v, .slice (some ⟨W.heap.size, 0, none⟩) 1 1]).run Try.prog (W.alloc (.cells #[.int .u8 (s.ds.length : Int)] 5)).drew = .ok v' w' ∧ ((∃ a k c, v' = .slice a k c) ∧ w'.cell? ⟨N, 7, none⟩ = some (.slice x.d s.ds.length x.dc) ∧
      Hid (Calls Try.prog 45 #[v', .slice x.d s.ds.length x.dc] w' fun e B => ∃ v k c, e = .returned (.slice v k c) ∧ B.cell? ⟨N, 6, none⟩ = some (.slice x.k s.ks.length x.kc) ∧ Hid (Cl V0 (.slice v k c) (bk s 0) B))))) := fun v W hW => by
    have hd : Cl V0 v (bz s s.ps.length) W.drew := ⟨hW.out.1, hW.out.2.trans ((below_drewN W 1).mono hW.out.2.size)⟩
    have hd2 : Below V0.heap.size V0 (W.alloc (.cells #[.int .u8 (s.ds.length : Int)] 5)).drew := (hW.out.2.alloc hW.out.2.size _).trans ((below_drewN _ 1).mono (by have := hW.out.2.size; simp; omega))
    refine ⟨(K3 _ hd.2).2.2, (K3 _ hd2).2.2, fun ty => ?_⟩
    obtain ⟨v', w', hr, ⟨a, c, hv⟩, hM⟩ := push_lit (Cl.made hd) [s.ds.length] 1 rfl #[.int .u8 (s.ds.length : Int)] rfl (by have := bz_len hf s.ps.length; omega) ty
    have hC := Made.cl hM.out
    refine ⟨v', w', hr, ⟨a, _, c, hv⟩, (K3 _ hC.2).2.2, ?_⟩
    subst hv
    obtain ⟨a', c', e', g1, g2, g3, _⟩ := own_la hC.1
    injection e' with i1 _ i2
    subst i1 i2
    have hl := bz_len hf s.ps.length
    have := put16 a c (bz s s.ps.length ++ [s.ds.length]) x.d x.dc s.ds w' g3 (by rw [List.length_append]; simp; omega) g2 (by omega) (hS.ds.below hC.2) ho.2.2.2
    rw [List.length_append] at this
    refine this.mono ?_
    rintro e B ⟨v, k, c, he, _, hB⟩
    have h2 := cl_up hC.2 hB.out
    rw [show bz s s.ps.length ++ [s.ds.length] ++ ens s.ds = bk s 0 by unfold bk; simp [kb]] at h2
    exact ⟨v, k, c, he, (K3 _ h2.2).2.1, h2⟩
  have STEP2 : Hid (∀ j v W, j < s.ks.length → Hid (Cl V0 v (bk s j) W) → ∃ (b o : Nat) (z : Int) (y : Nat), x.k = some ⟨b, o, none⟩ ∧ W.cell? ⟨b, o + j, none⟩ = some (.int .i64 z) ∧ IntKind.u8.wrap z = (y : Int) ∧ Hid (∀ ty, ∃ v' w', (Builtin.append_ #[35, 35] ty #[v, .slice (some ⟨W.heap.size, 0, none⟩) 1 1]).run Try.prog (W.alloc (.cells #[.int .u8 (y : Int)] 5)) = .ok v' w' ∧ ((∃ a k c, v' = .slice a k c) ∧ Hid (Cl V0 v' (bk s (j + 1)) w')))) := fun j v W hj hW => by
    obtain ⟨b, o, hp, hc⟩ := now hS.ks j hj
    refine ⟨b, o, s.ks[j], (s.ks[j] % 256).toNat, hp, hc.out W hW.out.2, u8_low _, fun ty => ?_⟩
    obtain ⟨v', w', hr, ⟨a, c, hv⟩, hM⟩ := push_lit (Cl.made hW.out) [(s.ks[j] % 256).toNat] 1 rfl #[.int .u8 ((s.ks[j] % 256).toNat : Int)] rfl (by have := bk_len hf j; omega) ty
    rw [bk_next s j hj] at hM
    exact ⟨v', w', hr, ⟨a, _, c, hv⟩, Made.cl hM.out⟩
  have END2 : Hid (∀ a k c W, Hid (Cl V0 (.slice a k c) (bk s s.ks.length) W) → Hid (Calls Try.prog 47 #[.slice a k c] W fun e B => e = .returned (.tuple #[.slice a k c, .int .i64 0]) ∧ Hid (Pb w a k c (byS s) B))) := fun a k c W hW => by
    have hl := bk_len hf s.ks.length
    obtain ⟨a', c', e⟩ := cl_sl hW.out
    injection e with _ e2 _
    subst e2
    refine (notlong47 a _ c W (by omega)).mono fun e B ⟨he, hB⟩ => ⟨he, ?_, ?_⟩
    · rw [bk_end]
    · rw [hB]
      have := cl_up hb hW.out
      rwa [← bk_end]
  clear hf ho h hS K3 K1 hO hb hN0
  obtain ⟨⟨mx, bu, co, ba, bi⟩, ps, ks, ds⟩ := s
  obtain ⟨p, pc, k, kc, d, dc⟩ := x
  simp only at *
  generalize bz ⟨⟨mx, bu, co, ba, bi⟩, ps, ks, ds⟩ = Z at *
  generalize bk ⟨⟨mx, bu, co, ba, bi⟩, ps, ks, ds⟩ = K at *
  generalize byS ⟨⟨mx, bu, co, ba, bi⟩, ps, ks, ds⟩ = A0 at *
  generalize ps.length = n at *
  generalize ks.length = m at *
  generalize ds.length = l at *
  obtain ⟨c0, c1, c2, c3, c4⟩ := C1
  obtain ⟨c5, c6, c7⟩ := C3
  go_enter Try.func19, Try.ntmps19
  go_wp2_with fail
  refine T10.out.mono ?_
  rintro e w1 ⟨rfl, ⟨d0, d1, d2, d3, d4⟩, h1⟩
  obtain ⟨W1, hW1⟩ : ∃ W1, w1.alloc (.cells #[.int .i64 mx, .int .i64 bu, .int .i64 co, .int .i64 ba, .int .i64 bi] 23) = W1 := ⟨_, rfl⟩
  obtain ⟨⟨g0, g1, g2, g3, g4⟩, ⟨g5, g6, g7⟩, T⟩ := T45.out w1 W1 h1 hW1
  clear T10 T45 c0 c1 c2 c3 c4 c5 c6 c7
  simp only at g0 g1 g2 g3 g4
  go_wp2_with fail
  refine T.out.mono ?_
  rintro e w2 ⟨v, k2, c2, rfl, ⟨g5, g6, g7⟩, R0⟩
  clear hW1 T d0 d1 d2 d3 d4 b0 b1 b2 b3 b4
  go_wp2_with fail
  go_loopw [5, 35] (fun u i wr => ∃ j : Nat, j ≤ n ∧ i = .int .i64 j ∧ (∃ a k c, u = .slice a k c) ∧ Hid (Cl V0 u (Z j) wr)) (fun _ i _ => n - (intOf i).toNat)
  case atStart => exact ⟨0, by omega, rfl, ⟨_, _, _, rfl⟩, R0⟩
  case round =>
    obtain ⟨j, hj, rfl, ⟨a, k4, c4, rfl⟩, hM⟩ := hrel
    clear R0
    by_cases hlt : j < n
    · obtain ⟨b, o, q, m2, k3, rfl, h0, A⟩ := T46.out j _ _ hlt hM
      have hjn : (j : Int) < (n : Int) := by omega
      have hj0 : (0 : Int) ≤ (j : Int) := by omega
      clear T46 END1 STEP2 END2 hM
      go_wp2_with fail
      refine A.out.mono ?_
      rintro e w5 ⟨a5, k5, c5, rfl, q5⟩
      go_wp2
      go_roundw
      case rel => exact ⟨j + 1, by omega, by simp, ⟨_, _, _, rfl⟩, q5⟩
      case measure => simp [intOf]; omega
    · obtain rfl : j = n := by omega
      obtain ⟨c7, c8, A⟩ := END1.out _ _ hM
      clear T46 END1 hM
      go_wp2_with fail
      go_region_law (first | (go_simp; go_at_call 45; refine B.out.mono ?_; rintro e w7 ⟨a7, k7, c7', rfl, e6, R1⟩) | (refine step_ex _ (by rfl) _ _ 35 (by rfl) _ _ (by rfl) (by rfl) (A.out _) ?_; rintro v6 w6 ⟨⟨a6, k6, c6, rfl⟩, d7, B⟩))
      all_goals (
        clear c7 c8
        go_wp2_with fail
        go_loopw [5, 59] (fun u i wr => ∃ j : Nat, j ≤ m ∧ i = .int .i64 j ∧ (∃ a k c, u = .slice a k c) ∧ Hid (Cl V0 u (K j) wr)) (fun _ i _ => m - (intOf i).toNat)
        case atStart => exact ⟨0, by omega, rfl, ⟨_, _, _, rfl⟩, R1⟩
        case round =>
          obtain ⟨i, hi, rfl, ⟨a9, k9, c9, rfl⟩, hM⟩ := hrel
          clear R1
          by_cases hlt : i < m
          · obtain ⟨b, o, z, y, rfl, h0, hy, A2⟩ := STEP2.out i _ _ hlt hM
            have hjn : (i : Int) < (m : Int) := by omega
            have hj0 : (0 : Int) ≤ (i : Int) := by omega
            clear STEP2 END2 hM
            go_wp2_with (at_builtin; refine app_step _ rfl _ _ 35 rfl _ _ rfl rfl (A2.out _) ?_; rintro v9 w9 ⟨⟨a8, k8, c8, rfl⟩, q9⟩)
            go_roundw
            case rel => exact ⟨i + 1, by omega, by simp, ⟨_, _, _, rfl⟩, q9⟩
            case measure => simp [intOf]; omega
          · obtain rfl : i = m := by omega
            have T := END2.out _ _ _ _ hM
            clear STEP2 END2 hM
            go_wp2_with fail
            refine T.out.mono ?_
            rintro e w9 ⟨rfl, q9⟩
            go_wp2
            go_ret2
            exact ⟨_, _, _, rfl, q9⟩)
end Go.Proofs.Ytfhcgildokdppaa
