/-
  The document's Bytes by its contract, of a right script.
-/
import Derived.Test.YtfhcgildokdppaaBy
namespace Go.Proofs.Ytfhcgildokdppaa
open Go.RowKit Go.Shelf tp
/-- the two rows joined, said of what Put leaves. -/
theorem cl_join {V0 V B : World} {v : Value} {ys zs : List Nat} {u : Option Addr} {k c : Nat} (h : Cl V0 v ys V) (hk : k = zs.length) (h2 : Cl V (.slice u k c) zs B) (hl : ys.length + zs.length ≤ 100000000000000) (ty : TypeId) :
    ∃ v' w', (Builtin.append_ #[35, 35] ty #[v, .slice u k c]).run Try.prog B = .ok v' w' ∧ ((∃ a k c, v' = .slice a k c) ∧ Cl V0 v' (ys ++ zs) w') := by
  obtain ⟨v', w', hr, ⟨a, c', hv⟩, hM⟩ := join_rows (Cl.made h) hk h2 hl ty
  exact ⟨v', w', hr, ⟨a, _, c', hv⟩, Made.cl hM.out⟩
theorem cl_lit {V0 V : World} {v : Value} {ys : List Nat} (h : Cl V0 v ys V) (zs : List Nat) (m : Nat) (hm : zs.length = m) (c : Array Value) (hc : c = (zs.map e8).toArray) (hl : ys.length + m ≤ 100000000000000) (ty : TypeId) :
    ∃ v' w', (Builtin.append_ #[35, 35] ty #[v, .slice (some ⟨V.heap.size, 0, none⟩) m m]).run Try.prog (V.alloc (.cells c 5)) = .ok v' w' ∧ ((∃ a k c, v' = .slice a k c) ∧ Cl V0 v' (ys ++ zs) w') := by
  obtain ⟨v', w', hr, ⟨a, c', hv⟩, hM⟩ := push_lit (Cl.made h) zs m hm c hc hl ty
  exact ⟨v', w', hr, ⟨a, _, c', hv⟩, Made.cl hM.out⟩
theorem cl_alloc {V0 V : World} {v : Value} {ys : List Nat} (h : Cl V0 v ys V) (o : Obj) : Cl V0 v ys (V.alloc o) := ⟨h.1.alloc o, h.2.alloc h.2.size _⟩
set_option maxRecDepth 100000 in
set_option maxHeartbeats 8000000 in
theorem refbytes20 (s : Scr) (x : Ad) (w : World) (h : Sc w s x) (hf : rightS s) (ho : s.ok) : Calls Try.prog 20 #[sv s x] w fun e B => ∃ v k c, e = .returned (.slice v k c) ∧ Hid (Pb w v k c (byS s) B) := by
  obtain ⟨N, hN⟩ : ∃ N, w.heap.size = N := ⟨_, rfl⟩
  change Calls Try.prog 20 #[svl s.c x.p s.ps.length x.pc x.k s.ks.length x.kc x.d s.ds.length x.dc] w _
  obtain ⟨V1, hV1⟩ : ∃ V1, w.alloc (.cells (scl s.c x.p s.ps.length x.pc x.k s.ks.length x.kc x.d s.ds.length x.dc) 27) = V1 := ⟨_, rfl⟩
  obtain ⟨V0, hV0⟩ : ∃ V0, V1.alloc (.cells (ccs s.c) 23) = V0 := ⟨_, rfl⟩
  have hb1 : Below w.heap.size w V1 := by rw [← hV1]; exact (Below.refl _ _).alloc (Nat.le_refl _) _
  have hO1 : V1.heap[N]? = some (.cells (scs s x) 27 (0, 0)) := by rw [← hV1]; exact heap_next hN.symm _
  have hs1 : V1.heap.size = N + 1 := by rw [← hV1, ← hN]; simp
  have hb : Below w.heap.size w V0 := by rw [← hV0]; exact hb1.alloc hb1.size _
  have hO : V0.heap[N]? = some (.cells (scs s x) 27 (0, 0)) := by rw [← hV0]; exact heap_old hO1
  have hP : V0.heap[N + 1]? = some (.cells (ccs s.c) 23 (0, 0)) := by rw [← hV0]; exact heap_next hs1.symm _
  have hs0 : V0.heap.size = N + 2 := by rw [← hV0]; simp [hs1]
  have C1 := cellsS hO1
  have C2 := cellsC hP
  have hS := h.below hb
  have K3 : ∀ V, Below V0.heap.size V0 V → S3 N x.p s.ps.length x.pc x.k s.ks.length x.kc x.d s.ds.length x.dc V := fun V hV => cells3 ((hV.block N (by omega)).trans hO)
  have K1 : ∀ V, Below V0.heap.size V0 V → Cc (N + 1) s.c V := fun V hV => cellsC ((hV.block (N + 1) (by omega)).trans hP)
  obtain ⟨b0, b1, b2, b3, b4⟩ := near_bounds hf.1
  have h6 := hf.2.1.1
  have h255 := hf.2.2.2
  have hx0 : I64 s.c.mx := ho.1.1
  have hx2 : I64 s.c.co := ho.1.2.2.1
  -- region 2
  have T2 : Hid (Calls Try.prog 48 #[.slice (some ⟨V0.heap.size, 0, none⟩) 1 1] (V0.alloc (.cells #[.int .i64 s.c.mx] 3)) fun e B => ∃ v k c, e = .returned (.slice v k c) ∧ Cc (N + 1) s.c B ∧ Hid (Cl V0 (.slice v k c) (ens [s.c.mx]) B)) := by
    refine (refput17 (some ⟨V0.heap.size, 0, none⟩) 1 [s.c.mx] _ (by simp) (la_lit' V0 3 _ [s.c.mx] rfl) fun y hy => by obtain rfl := List.mem_singleton.1 hy; exact hx0).mono ?_
    rintro e B ⟨v, k, c, he, _, hB⟩
    have := cl_up ((Below.refl _ _).alloc (Nat.le_refl _) _) hB.out
    exact ⟨v, k, c, he, K1 B this.2, this⟩
  -- region 3
  have A3 : Hid (∀ v W, Hid (Cl V0 v (ens [s.c.mx]) W) → ∀ ty, ∃ v' w', (Builtin.append_ #[35, 35] ty #[v, .slice (some ⟨W.heap.size, 0, none⟩) 3 3]).run Try.prog (W.alloc (.cells #[.int .u8 (s.c.bu - 1), .int .u8 (s.c.ba - 1), .int .u8 s.c.bi] 5)) = .ok v' w' ∧ ((∃ a k c, v' = .slice a k c) ∧ Cc (N + 1) s.c w' ∧ Hid (Cl V0 v' (ens [s.c.mx] ++ [(s.c.bu - 1).toNat, (s.c.ba - 1).toNat, s.c.bi.toNat]) w'))) := fun v W hW ty => by
    obtain ⟨v', w', hr, hv, hC⟩ := cl_lit hW.out [(s.c.bu - 1).toNat, (s.c.ba - 1).toNat, s.c.bi.toNat] 3 rfl #[.int .u8 (s.c.bu - 1), .int .u8 (s.c.ba - 1), .int .u8 s.c.bi] (by simp [e8]; omega) (by have := ens_len [s.c.mx]; simp at this; omega) ty
    exact ⟨v', w', hr, hv, K1 _ hC.2, hC⟩
  obtain ⟨Y, hY⟩ : ∃ Y, ens [s.c.mx] ++ [(s.c.bu - 1).toNat, (s.c.ba - 1).toNat, s.c.bi.toNat] = Y := ⟨_, rfl⟩
  have hYl : Y.length ≤ 100 := by
    have := ens_len [s.c.mx]
    rw [← hY]
    simp at this ⊢
    omega
  have hY5 : Y ++ ens [s.c.co] ++ [s.ps.length] = bz s 0 := by
    rw [← hY, byS_ref hf]
    unfold bz
    simp [eps]
  rw [hY] at A3
  clear hY
  -- region 4
  have A4 : Hid (∀ v W, Hid (Cl V0 v Y W) → Hid (Calls Try.prog 48 #[.slice (some ⟨W.heap.size, 0, none⟩) 1 1] (W.alloc (.cells #[.int .i64 s.c.co] 3)) fun e B => ∃ q k c, e = .returned (.slice q k c) ∧ Hid (∀ ty, ∃ v' w', (Builtin.append_ #[35, 35] ty #[v, .slice q k c]).run Try.prog B = .ok v' w' ∧ ((∃ a k c, v' = .slice a k c) ∧ S3 N x.p s.ps.length x.pc x.k s.ks.length x.kc x.d s.ds.length x.dc w' ∧ Hid (Cl V0 v' (Y ++ ens [s.c.co]) w'))))) := fun v W hW => by
    refine (refput17 (some ⟨W.heap.size, 0, none⟩) 1 [s.c.co] _ (by simp) (la_lit' W 3 _ [s.c.co] rfl) fun y hy => by obtain rfl := List.mem_singleton.1 hy; exact hx2).mono ?_
    rintro e B ⟨q, k, c, he, hk, hB⟩
    refine ⟨q, k, c, he, fun ty => ?_⟩
    obtain ⟨v', w', hr, hv, hC⟩ := cl_join (cl_alloc hW.out (.cells #[.int .i64 s.c.co] 3)) hk hB.out (by have := ens_len [s.c.co]; simp at this; omega) ty
    exact ⟨v', w', hr, hv, K3 _ hC.2, hC⟩
  -- region 5
  have A5 : Hid (∀ v W, Hid (Cl V0 v (Y ++ ens [s.c.co]) W) → ∀ ty, ∃ v' w', (Builtin.append_ #[35, 35] ty #[v, .slice (some ⟨W.heap.size, 0, none⟩) 1 1]).run Try.prog (W.alloc (.cells #[.int .u8 (s.ps.length : Int)] 5)) = .ok v' w' ∧ ((∃ a k c, v' = .slice a k c) ∧ Hid (Cl V0 v' (bz s 0) w'))) := fun v W hW ty => by
    obtain ⟨v', w', hr, hv, hC⟩ := cl_lit hW.out [s.ps.length] 1 rfl #[.int .u8 (s.ps.length : Int)] rfl (by have := ens_len [s.c.co]; simp at this ⊢; omega) ty
    rw [hY5] at hC
    exact ⟨v', w', hr, hv, hC⟩
  -- loop 1
  have T49 : Hid (∀ j v W, j < s.ps.length → Hid (Cl V0 v (bz s j) W) → ∃ (b o : Nat) (q : Option Addr) (m k : Nat), x.p = some ⟨b, o, none⟩ ∧ W.cell? ⟨N, 5, none⟩ = some (.slice x.p s.ps.length x.pc) ∧ W.cell? ⟨b, o + j, none⟩ = some (.slice q m k) ∧ Hid (Calls Try.prog 49 #[.slice q m k] W fun e B => ∃ q' k' c', e = .returned (.slice q' k' c') ∧ Hid (∀ ty, ∃ v' w', (Builtin.append_ #[35, 35] ty #[v, .slice q' k' c']).run Try.prog B = .ok v' w' ∧ ((∃ a k c, v' = .slice a k c) ∧ Hid (Cl V0 v' (bz s (j + 1)) w'))))) := fun j v W hj hW => by
    obtain ⟨b, o, q, k, hp, hc⟩ := nowP hS.ps j hj
    obtain ⟨e1, e2⟩ := hc.out W hW.out.2
    have hm := List.getElem_mem hj
    refine ⟨b, o, q, _, k, hp, (K3 _ hW.out.2).1, e1, (refput21 q k s.ps[j] W e2 (ho.2.1 _ hm) (hf.2.1.2 _ hm)).mono ?_⟩
    rintro e B ⟨v2, k', c', he, hB⟩
    refine ⟨v2, k', c', he, fun ty => ?_⟩
    obtain ⟨v', w', hr, hv, hC⟩ := cl_join hW.out hB.out.1 hB.out.2 (by have := bz_len hf j; have := pus_len (hf.2.1.2 _ hm); omega) ty
    rw [bz_next s j hj] at hC
    exact ⟨v', w', hr, hv, hC⟩
  -- regions 10, 11
  have A10 : Hid (∀ v W, Hid (Cl V0 v (bz s s.ps.length) W) → W.cell? ⟨N, 5, none⟩ = some (.slice x.p s.ps.length x.pc) ∧ W.cell? ⟨N, 7, none⟩ = some (.slice x.d s.ds.length x.dc) ∧ Hid (∀ ty, ∃ v' w', (Builtin.append_ #[35, 35] ty #[v, .slice (some ⟨W.heap.size, 0, none⟩) 1 1]).run Try.prog (W.alloc (.cells #[.int .u8 (s.ds.length : Int)] 5)) = .ok v' w' ∧ ((∃ a k c, v' = .slice a k c) ∧ w'.cell? ⟨N, 7, none⟩ = some (.slice x.d s.ds.length x.dc) ∧
      Hid (Calls Try.prog 48 #[.slice x.d s.ds.length x.dc] w' fun e B => ∃ q k c, e = .returned (.slice q k c) ∧ Hid (∀ ty, ∃ v2 w2, (Builtin.append_ #[35, 35] ty #[v', .slice q k c]).run Try.prog B = .ok v2 w2 ∧ ((∃ a k c, v2 = .slice a k c) ∧ Hid (Cl V0 v2 (bk s 0) w2))))))) := fun v W hW => by
    refine ⟨(K3 _ hW.out.2).1, (K3 _ hW.out.2).2.2, fun ty => ?_⟩
    have hl := bz_len hf s.ps.length
    obtain ⟨v', w', hr, hv, hC⟩ := cl_lit hW.out [s.ds.length] 1 rfl #[.int .u8 (s.ds.length : Int)] rfl (by omega) ty
    refine ⟨v', w', hr, hv, (K3 _ hC.2).2.2, ?_⟩
    refine (refput17 x.d x.dc s.ds w' (by omega) (hS.ds.below hC.2) ho.2.2.2).mono ?_
    rintro e B ⟨q, k, c, he, hk, hB⟩
    refine ⟨q, k, c, he, fun ty => ?_⟩
    obtain ⟨v2, w2, hr2, hv2, hC2⟩ := cl_join hC hk hB.out (by have := ens_len s.ds; simp; omega) ty
    rw [show bz s s.ps.length ++ [s.ds.length] ++ ens s.ds = bk s 0 by unfold bk; simp [kb]] at hC2
    exact ⟨v2, w2, hr2, hv2, hC2⟩
  -- loop 2
  have STEP2 : Hid (∀ j v W, j < s.ks.length → Hid (Cl V0 v (bk s j) W) → ∃ (b o : Nat) (z : Int) (y : Nat), x.k = some ⟨b, o, none⟩ ∧ W.cell? ⟨N, 6, none⟩ = some (.slice x.k s.ks.length x.kc) ∧ W.cell? ⟨b, o + j, none⟩ = some (.int .i64 z) ∧ IntKind.u8.wrap z = (y : Int) ∧ Hid (∀ ty, ∃ v' w', (Builtin.append_ #[35, 35] ty #[v, .slice (some ⟨W.heap.size, 0, none⟩) 1 1]).run Try.prog (W.alloc (.cells #[.int .u8 (y : Int)] 5)) = .ok v' w' ∧ ((∃ a k c, v' = .slice a k c) ∧ Hid (Cl V0 v' (bk s (j + 1)) w')))) := fun j v W hj hW => by
    obtain ⟨b, o, hp, hc⟩ := now hS.ks j hj
    refine ⟨b, o, s.ks[j], (s.ks[j] % 256).toNat, hp, (K3 _ hW.out.2).2.1, hc.out W hW.out.2, u8_low _, fun ty => ?_⟩
    obtain ⟨v', w', hr, hv, hC⟩ := cl_lit hW.out [(s.ks[j] % 256).toNat] 1 rfl #[.int .u8 ((s.ks[j] % 256).toNat : Int)] rfl (by have := bk_len hf j; omega) ty
    rw [bk_next s j hj] at hC
    exact ⟨v', w', hr, hv, hC⟩
  have END2 : Hid (∀ a k c W, Hid (Cl V0 (.slice a k c) (bk s s.ks.length) W) → W.cell? ⟨N, 6, none⟩ = some (.slice x.k s.ks.length x.kc) ∧ Hid (Pb w a k c (byS s) W)) := fun a k c W hW => by
    obtain ⟨a', c', e⟩ := cl_sl hW.out
    injection e with _ e2 _
    refine ⟨(K3 _ hW.out.2).2.1, ?_, ?_⟩
    · rw [e2, bk_end]
    · have := cl_up hb hW.out
      rwa [← bk_end]
  have w1 : IntKind.u8.wrap (s.c.bu - 1) = s.c.bu - 1 := by rw [IntKind.wrap_u8']; omega
  have w2 : IntKind.u8.wrap (s.c.ba - 1) = s.c.ba - 1 := by rw [IntKind.wrap_u8']; omega
  have w3 : IntKind.u8.wrap s.c.bi = s.c.bi := by rw [IntKind.wrap_u8']; omega
  have w4 : IntKind.u8.wrap (s.ps.length : Int) = (s.ps.length : Int) := by rw [IntKind.wrap_u8']; omega
  have w5 : IntKind.u8.wrap (s.ds.length : Int) = (s.ds.length : Int) := by rw [IntKind.wrap_u8']; omega
  have hks6 := hf.2.2.1.1
  clear hf ho h hS K3 K1 hO hO1 hb hb1 hP hY5 hYl hx0 hx2 hs0
  obtain ⟨⟨mx, bu, co, ba, bi⟩, ps, ks, ds⟩ := s
  obtain ⟨p, pc, k, kc, d, dc⟩ := x
  simp only at *
  generalize bz ⟨⟨mx, bu, co, ba, bi⟩, ps, ks, ds⟩ = Z at *
  generalize bk ⟨⟨mx, bu, co, ba, bi⟩, ps, ks, ds⟩ = K at *
  generalize byS ⟨⟨mx, bu, co, ba, bi⟩, ps, ks, ds⟩ = A0 at *
  generalize ens [mx] = Y0 at *
  generalize Y ++ ens [co] = Y1 at *
  generalize ps.length = n at *
  generalize ks.length = m at *
  generalize ds.length = l at *
  obtain ⟨c0, c1, c2, c3, c4⟩ := C1
  obtain ⟨g0, g1, g2, g3, g4⟩ := C2
  simp only at c0 c1 c2 c3 c4 g0 g1 g2 g3 g4
  go_enter Try.func20, Try.ntmps20
  go_wp2_with fail
  refine T2.out.mono ?_
  rintro e u1 ⟨v, k1, c1', rfl, ⟨d0, d1, d2, d3, d4⟩, R1⟩
  clear T2 c0 c1 c2 c3 c4 g0 g1 g2 g3 g4
  simp only at d0 d1 d2 d3 d4
  have B3 := A3.out _ _ R1
  clear A3 R1
  go_wp2_with (at_builtin; refine app_step _ rfl _ _ 35 rfl _ _ rfl rfl (B3 _) ?_; rintro v3 u3 ⟨⟨a3, k3, c3, rfl⟩, ⟨e0, e1, e2, e3, e4⟩, R3⟩)
  have T4 := A4.out _ _ R3
  clear A4 R3
  refine T4.out.mono ?_
  rintro e u4 ⟨q4, k4, c4, rfl, B4⟩
  go_wp2_with (first
    | (at_builtin; refine app_step _ rfl _ _ 35 rfl _ _ rfl rfl (A5.out _ _ R4 _) ?_; rintro v6 u6 ⟨⟨a6, k6, c6, rfl⟩, R5⟩)
    | (at_builtin; refine app_step _ rfl _ _ 35 rfl _ _ rfl rfl (B4.out _) ?_; rintro v5 u5 ⟨⟨a5, k5, c5, rfl⟩, ⟨f5, f6, f7⟩, R4⟩))
  clear T4 B4 A5 R4 e0 e1 e2 e3 e4 d0 d1 d2 d3 d4
  go_loopw [4, 5] (fun u i wr => ∃ j : Nat, j ≤ n ∧ i = .int .i64 j ∧ (∃ a k c, u = .slice a k c) ∧ Hid (Cl V0 u (Z j) wr)) (fun _ i _ => n - (intOf i).toNat)
  case atStart => exact ⟨0, by omega, rfl, ⟨_, _, _, rfl⟩, R5⟩
  case round =>
    obtain ⟨j, hj, rfl, ⟨a7, k7, c7, rfl⟩, hM⟩ := hrel
    clear R5
    by_cases hlt : j < n
    · obtain ⟨b, o, q, m2, k8, rfl, e5, h0, A⟩ := T49.out j _ _ hlt hM
      have hjn : (j : Int) < (n : Int) := by omega
      have hj0 : (0 : Int) ≤ (j : Int) := by omega
      clear T49 A10 STEP2 END2 hM
      go_wp2_with (first
        | (go_at_call 49; refine A.out.mono ?_; rintro e u8 ⟨a8, k9, c8, rfl, B⟩)
        | (at_builtin; refine app_step _ rfl _ _ 35 rfl _ _ rfl rfl (B.out _) ?_; rintro v9 u9 ⟨⟨a9, k9', c9, rfl⟩, R6⟩))
      go_roundw
      case rel => exact ⟨j + 1, by omega, by simp, ⟨_, _, _, rfl⟩, R6⟩
      case measure => simp [intOf]; omega
    · obtain rfl : j = n := by omega
      obtain ⟨e5, e7, A⟩ := A10.out _ _ hM
      clear T49 A10 hM
      go_wp2_with (first
        | (go_at_call 48; refine B.out.mono ?_; rintro e u9 ⟨q9, k9, c9, rfl, D⟩)
        | (at_builtin; refine app_step _ rfl _ _ 35 rfl _ _ rfl rfl (D.out _) ?_; rintro v10 u10 ⟨⟨a10, k10, c10, rfl⟩, R7⟩)
        | (at_builtin; refine app_step _ rfl _ _ 35 rfl _ _ rfl rfl (A.out _) ?_; rintro v8 u8 ⟨⟨a8, k8, c8, rfl⟩, f7', B⟩))
      go_loopw [4, 6] (fun u i wr => ∃ j : Nat, j ≤ m ∧ i = .int .i64 j ∧ (∃ a k c, u = .slice a k c) ∧ Hid (Cl V0 u (K j) wr)) (fun _ i _ => m - (intOf i).toNat)
      case atStart => exact ⟨0, by omega, rfl, ⟨_, _, _, rfl⟩, R7⟩
      case round =>
        obtain ⟨i, hi, rfl, ⟨a11, k11, c11, rfl⟩, hM⟩ := hrel
        clear R7
        by_cases hlt : i < m
        · obtain ⟨b, o, z, y, rfl, e6, h0, hy, A2⟩ := STEP2.out i _ _ hlt hM
          have hjn : (i : Int) < (m : Int) := by omega
          have hj0 : (0 : Int) ≤ (i : Int) := by omega
          clear STEP2 END2 hM
          go_wp2_with (at_builtin; refine app_step _ rfl _ _ 35 rfl _ _ rfl rfl (A2.out _) ?_; rintro v12 u12 ⟨⟨a12, k12, c12, rfl⟩, R8⟩)
          go_roundw
          case rel => exact ⟨i + 1, by omega, by simp, ⟨_, _, _, rfl⟩, R8⟩
          case measure => simp [intOf]; omega
        · obtain rfl : i = m := by omega
          obtain ⟨e6, F⟩ := END2.out _ _ _ _ hM
          clear STEP2 END2 hM
          go_wp2
          go_ret
          exact ⟨_, _, _, rfl, F⟩
end Go.Proofs.Ytfhcgildokdppaa
