/-
  Parse of package script by its contract, for every bytes (at most a million).
-/
import Derived.Test.YtfhcgildokdppaaPo
namespace Go.Proofs.Ytfhcgildokdppaa
open Go.RowKit Go.Shelf tp
theorem cut_h (a : Option Addr) (n cap k : Nat) (hn : k ≤ n) (hc : n ≤ cap) : ∃ p, (∀ W', (Instr.slice 35 (.slice a n cap) none (some (.int .i64 (k : Int))) none).run Try.prog W' = .ok (.slice p k cap) W') ∧ (∀ b o, a = some ⟨b, o, none⟩ → p = some ⟨b, o, none⟩) ∧ (p = none → a = none) := by
  refine ⟨if cap = 0 then a else a.map (·.add (0 * 1)), fun W' => by rw [run_slice_h W' 35 a n cap elem22 .i64 k (by omega) (by omega), size22]; simp [sliced], fun b o h => ?_, fun h => ?_⟩
  · subst h
    by_cases h : cap = 0 <;> simp [h, Addr.add]
  · by_cases h0 : cap = 0
    · rwa [if_pos h0] at h
    · rw [if_neg h0] at h
      cases a with
      | none => rfl
      | some x => cases h
theorem La.take {w : World} {a p : Option Addr} {bs : List Nat} (h : La e8 w a bs) (k : Nat) (hp : ∀ b o, a = some ⟨b, o, none⟩ → p = some ⟨b, o, none⟩) : La e8 w p (bs.take k) := fun h0 => by
  rw [List.length_take] at h0
  obtain ⟨b, o, rfl, hi⟩ := h (by omega)
  refine ⟨b, o, hp b o rfl, fun i hi' => ?_⟩
  rw [List.length_take] at hi'
  rw [hi i (by omega), List.getElem_take]
/-- an append in a region that draws its order. -/
theorem step_ex {P : Program} (w : World) {ops : Array Oper} {o : Oper} {a : Act} {K : Act → World → Prop} {Q : Exit → Act → World → Prop} {E : Prop} (hgd : o.guard = none) (s x : Operand) (t : TypeId)
    (ho : o.op = .call { callee := .builtin .append, args := #[s, x], argTypes := #[t, t] }) (v u : Value) (hs : a.eval s = v) (hx : a.eval x = u) {R : Value → World → Prop}
    (hrun : ∃ v' w', (Builtin.append_ #[t, t] o.type #[v, u]).run P w = .ok v' w' ∧ R v' w') (h : ∀ v' w', R v' w' → K (a.put o.dst v') w') :
    if Region.wanted o (yielded ops a.tmps) = true then Oper.wp P o a w K Q else E := by
  have hw : Region.wanted o (yielded ops a.tmps) = true := by simp [Region.wanted, hgd]
  rw [if_pos hw]
  obtain ⟨v', w', hr, hR⟩ := hrun
  unfold Oper.wp execOp
  simp only [ho, resolve, invoke, builtin, Sem.run_bind, Sem.run_pure, Result.andThen_ok, List.map_toArray, List.map_cons, List.map_nil, hs, hx, hr]
  exact h v' w' hR
theorem rm_nat (cs : List Nat) (a : Nat) (lo : Int) (n : Nat) : rm cs a lo (n : Int) = lo + ((bt cs a % n : Nat) : Int) := rfl
theorem rm_zero (cs : List Nat) (a : Nat) (n : Nat) : rm cs a 0 (n : Int) = ((bt cs a % n : Nat) : Int) := by
  rw [rm_nat]
  omega
/-- the config's five cells are there. -/
theorem Pp.cfg {cap : Nat} {w V : World} {D : Nat} {q : Option Addr} {cs : List Nat} {X : Nat} {u v : Int} (h : Pp cap w D q cs (ia cs (nx cs (nx cs (nx cs (ia cs 0))))) X (S8v ⟨iv cs 0, rm cs (ia cs 0) 1 64, iv cs (nx cs (nx cs (nx cs (ia cs 0)))), rm cs (nx cs (ia cs 0)) 1 16, rm cs (nx cs (nx cs (ia cs 0))) 0 65⟩ nl nl nl) u v V) : Pp cap w D q cs (q5 cs) X (S8v (cf cs) nl nl nl) u v V := by
  rw [show rm cs (nx cs (nx cs (ia cs 0))) 0 65 = ((bt cs (nx cs (nx cs (ia cs 0))) % 65 : Nat) : Int) from rm_zero _ _ 65] at h
  exact h
theorem sv_parse (cs : List Nat) (x : Ad) : sv (parse cs) x = svl (near (cf cs)) x.p (np cs) x.pc x.k (nk cs) x.kc x.d (nd cs) x.dc := by
  show svl (near (cf cs)) x.p (ppl cs (q6 cs) (np cs)).length x.pc x.k (kl cs (q9 cs) (nk cs)).length x.kc x.d (dl cs (q8 cs) (nd cs)).length x.dc = _
  rw [ppl_len, kl_len, dl_len]
set_option maxRecDepth 100000 in
set_option maxHeartbeats 8000000 in
theorem parse17 (p : Option Addr) (bs : List Nat) (c : Nat) (w : World) (hn : p = none → bs = [] ∧ c = 0) (hc : bs.length ≤ c) (hl : bs.length ≤ 1000000) (hs : Bs bs) (hr : La e8 w p bs) :
    Calls Try.prog 17 #[.slice p bs.length c] w fun e B => ∃ x, e = .returned (sv (parse (bs.take 16384)) x) ∧ Hid (Sc B (parse (bs.take 16384)) x ∧ Below w.heap.size w B) := by
  obtain ⟨N, hN⟩ : ∃ N, w.heap.size = N := ⟨_, rfl⟩
  obtain ⟨V0, hV0⟩ : ∃ V0, V0 = w.alloc (.cells (S8v ⟨0, 0, 0, 0, 0⟩ nl nl nl) 27) := ⟨_, rfl⟩
  obtain ⟨cs, hcs⟩ : ∃ cs, bs.take 16384 = cs := ⟨_, rfl⟩
  have hk : min (bs.length : Int) 16384 = (cs.length : Int) := by rw [← hcs, List.length_take]; omega
  have hk2 : cs.length ≤ bs.length := by omega
  obtain ⟨p', hcut, hp', hpn⟩ := cut_h p bs.length c cs.length hk2 hc
  have hr' : La e8 V0 p' cs := by
    rw [hV0, ← hcs]
    exact (La.take hr 16384 hp').below ((Below.refl _ _).alloc (Nat.le_refl _) _)
  have hbs : Bs cs := by rw [← hcs]; exact fun x hx => hs x (List.mem_of_mem_take hx)
  have T34 : Hid (Calls Try.prog 34 #[.slice p' cs.length c] V0 fun e B => ∃ D c q, e = .returned (.pointer (some ⟨D, 0, none⟩)) ∧ Hid (Nw V0 D c q cs B)) := new6 p' cs c V0 (fun h => by
    obtain ⟨h1, h2⟩ := hn (hpn h)
    exact ⟨by rw [← hcs, h1]; rfl, h2⟩) (by omega) hbs hr'
  have BX : Hid (∀ D c q B X, Hid (Nw V0 D c q cs B) → B.heap.size = X → ∀ W, (((B.alloc (.cells #[.pointer (some ⟨D, 0, none⟩)] 55)).alloc (.cells #[.int .i64 0, .int .i64 0, .int .i64 0, .int .i64 0, .int .i64 0, .slice none 0 0, .slice none 0 0, .slice none 0 0] 27)).alloc (.cells #[.int .i64 0] 3)).alloc (.cells #[.int .i64 0] 3) = W → Hid (Pp c w D q cs 0 X (S8v ⟨0, 0, 0, 0, 0⟩ nl nl nl) 0 0 W)) := fun D c q B X h hX W hW => boxes hV0 h.out hX hW
  have mk := mk35
  rw [hcs]
  clear hr hr' hs hn hp' hpn
  generalize bs.length = n at *
  generalize hm : cs.length = m at *
  subst hV0
  go_enter Try.func17, Try.ntmps17
  go_wp2_with fail
  refine T34.out.mono ?_
  rintro e w1 ⟨D, c1, q, rfl, hNw⟩
  obtain ⟨X, hX⟩ : ∃ X, w1.heap.size = X := ⟨_, rfl⟩
  have P0 := BX.out D c1 q w1 X hNw hX _ rfl
  have cx := P0.out.x
  clear T34 BX hNw
  go_wp2_with fail
  refine (P0.out.int (i := 0) (y := .int .i64 0) rfl).mono ?_
  rintro e w2 ⟨x0, rfl, c0, f0, cx1, P1⟩
  clear P0 cx
  go_wp2_with fail
  refine (P1.out.sub (i := 1) (y := .int .i64 0) rfl 1 64 (by decide) (by decide) (by decide) (by decide)).mono ?_
  rintro e w3 ⟨rfl, cx2, P2⟩
  clear P1 cx1 c0 f0
  go_wp2_with fail
  refine (P2.out.sub (i := 3) (y := .int .i64 0) rfl 1 16 (by decide) (by decide) (by decide) (by decide)).mono ?_
  rintro e w4 ⟨rfl, cx3, P3⟩
  clear P2 cx2
  go_wp2_with fail
  refine (P3.out.sub (i := 4) (y := .int .i64 0) rfl 0 65 (by decide) (by decide) (by decide) (by decide)).mono ?_
  rintro e w5 ⟨rfl, cx4, P4⟩
  clear P3 cx3
  go_wp2_with fail
  refine (P4.out.int (i := 2) (y := .int .i64 0) rfl).mono ?_
  rintro e w6 ⟨x1, rfl, c2, f2, cx5, P5⟩
  clear P4 cx4
  have P6 := Lib.hid P5.out.cfg
  clear P5
  obtain ⟨⟨i0, i1, i2, i3, i4⟩, hcf⟩ : ∃ r, cf cs = r := ⟨_, rfl⟩
  rw [hcf] at P6
  obtain ⟨⟨h0, h1, h2, h3, h4⟩, T9⟩ := P6.out.near5
  replace hcf := Lib.hid hcf
  clear P6
  go_wp2_with fail
  refine T9.out.mono ?_
  rintro e w7 ⟨y0, y1, y2, y3, y4, rfl, ⟨d0, d1, d2, d3, d4⟩, ⟨g0, g1, g2, g3, g4⟩, E7⟩
  obtain ⟨cx7, P7⟩ := E7.out _ rfl
  unfold setC at cx7
  rw [← hcf.out] at P7
  clear hcf
  clear T9 E7 h0 h1 h2 h3 h4 c2 f2 cx5
  go_wp2_with fail
  refine (P7.out.sub2 7 (by decide) (by decide)).mono ?_
  rintro e w8 ⟨rfl, cx8, P8⟩
  clear P7 cx7 d0 d1 d2 d3 d4 g0 g1 g2 g3 g4
  have hnp : np cs < 7 := Nat.mod_lt _ (by decide)
  have a2 := P8.out.at2
  rw [show rm cs (q5 cs) 0 7 = (np cs : Int) from rm_zero _ _ 7] at a2
  obtain ⟨cN, hcN⟩ : ∃ r, near (cf cs) = r := ⟨_, rfl⟩
  rw [hcN] at P8
  have S1 : Hid (L1 76 c1 w (Ft D q cs) D q cs (X + 1) (X + 1 + 1 + 1 + 1) cN (Rp N D X (rm cs (q5 cs) 0 7) 0) 0 nl w8) := L1.start (hN ▸ P8.out.pf)
  have LO := Lib.hid P8.out.lo
  have STEP1 : Hid (∀ j v V, j < np cs → Hid (L1 76 c1 w (Ft D q cs) D q cs (X + 1) (X + 1 + 1 + 1 + 1) cN (Rp N D X (rm cs (q5 cs) 0 7) 0) j v V) → V.drew.cell? ⟨X, 0, none⟩ = some (.pointer (some ⟨D, 0, none⟩)) ∧ V.drew.cell? ⟨X + 1, 5, none⟩ = some v ∧
      Hid (Calls Try.prog 38 #[.pointer (some ⟨D, 0, none⟩)] V.drew fun e B => ∃ p n m, e = .returned (.slice p n m) ∧ B.cell? ⟨X + 1, 5, none⟩ = some v ∧ (B.alloc (.cells #[.slice p n m] 30)).cell? ⟨X + 1, 5, none⟩ = some v ∧ Hid (∀ ty, ∃ v' w', (Builtin.append_ #[24, 24] ty #[v, .slice (some ⟨B.heap.size, 0, none⟩) 1 1]).run Try.prog (B.alloc (.cells #[.slice p n m] 30)) = .ok v' w' ∧
      ((∃ p c, v' = .slice p (j + 1) c) ∧ w'.cell? ⟨X + 1, 5, none⟩ = some v ∧ w'.frozen? ⟨X + 1, 5, none⟩ = false ∧ Hid (L1 76 c1 w (Ft D q cs) D q cs (X + 1) (X + 1 + 1 + 1 + 1) cN (Rp N D X (rm cs (q5 cs) 0 7) 0) (j + 1) v' (w'.setCell ⟨X + 1, 5, none⟩ v')))))) := fun j v V hj h =>
    have hd := h.out.drew
    ⟨cell_of hd.1.rest.2.1 0, hd.1.cell 5, hd.step (read_p hd.1.tape) (by omega)⟩
  have hds : nd cs ≤ 255 := by
    have := bt_lt hbs (q7 cs)
    unfold nd
    omega
  have END1 : Hid (∀ v V, Hid (L1 76 c1 w (Ft D q cs) D q cs (X + 1) (X + 1 + 1 + 1 + 1) cN (Rp N D X (rm cs (q5 cs) 0 7) 0) (np cs) v V) → ∃ a1 n1, v = .slice a1 (np cs) n1 ∧ Hid (Calls Try.prog 35 #[.pointer (some ⟨X + 1 + 1 + 1, 0, none⟩), .int .i64 0, .int .i64 256, .pointer (some ⟨X, 0, none⟩)] V fun e B => e = .returned (.tuple #[]) ∧ B.cell? ⟨X + 1 + 1 + 1, 0, none⟩ = some (.int .i64 (nd cs : Int)) ∧
      Hid (L2 76 c1 w (Ft D q cs) D q cs (X + 1) B.heap.size cN (R2 (Rp N D X (rm cs (q5 cs) 0 7) (rm cs (q7 cs) 0 256)) (X + 1 + 1 + 1 + 1) V.heap.size v (ppl cs (q6 cs) (np cs))) v 0 nl B ∧ X + 1 + 1 + 1 + 1 ≤ V.heap.size ∧ V.heap.size ≤ B.heap.size))) := fun v V h => by
    obtain ⟨a1, n1, hv⟩ := h.out.sl
    have hP : Pp c1 w D q cs (q7 cs) X (S8v cN v nl nl) (rm cs (q5 cs) 0 7) 0 V := ⟨hN ▸ h.out.1, LO.out⟩
    refine ⟨a1, n1, hv, (hP.sub3 256 (by decide) (by decide)).mono fun e B ⟨he, _, hB⟩ => ?_⟩
    obtain ⟨h1, h2⟩ := hB.out
    have h3 := h1.at3
    have e3 : rm cs (q7 cs) 0 256 = (nd cs : Int) := by
      rw [show rm cs (q7 cs) 0 256 = ((bt cs (q7 cs) % 256 : Nat) : Int) from rm_zero _ _ 256]
      unfold nd
      have := bt_lt hbs (q7 cs)
      omega
    rw [e3] at h3
    have hZ := h.out.1.hZ
    exact ⟨he, h3, L2.start (h := hN ▸ h1.pf) (hL := h.out.2.keep h2 fun j hj _ => by omega) h2.size, hZ, h2.size⟩
  have hlo : N < X := by
    have := P8.out.X_lt
    omega
  clear P8 mk hk hcut
  generalize hnn : np cs = nn at *
  go_wp2_with fail
  go_loopw [42] (fun i wr => ∃ j : Nat, j ≤ nn ∧ i = .int .i64 j ∧ ∃ v, Hid (L1 76 c1 w (Ft D q cs) D q cs (X + 1) (X + 1 + 1 + 1 + 1) cN (Rp N D X (rm cs (q5 cs) 0 7) 0) j v wr)) (fun i _ => nn - (intOf i).toNat)
  case atStart => exact ⟨0, by omega, rfl, _, S1⟩
  case round =>
    obtain ⟨j, hj, rfl, v, hR⟩ := hrel
    clear S1 a2
    by_cases hlt : j < nn
    · obtain ⟨cx, c5, T⟩ := STEP1.out j v _ hlt hR
      clear STEP1 END1 LO hR
      go_wp2_with fail
      go_region_law (first | (go_simp; go_at_call 38; refine T.out.mono ?_; rintro e w9 ⟨p2, n2, m2, rfl, d5, d6, A⟩) | (refine step_ex _ (by rfl) _ _ 24 (by rfl) _ _ (by rfl) (by rfl) (A.out _) ?_; rintro v3 w10 ⟨⟨a3, c3, rfl⟩, g5, f5, q5⟩))
      all_goals (
        go_wp2
        go_roundw
        case rel => exact ⟨j + 1, by omega, by simp, _, q5⟩
        case measure => simp [intOf]; omega)
    · obtain rfl : j = nn := by omega
      obtain ⟨a1, n1, rfl, T⟩ := END1.out v _ hR
      clear STEP1 END1 hR
      have hY1 : wr.heap.size = wr.heap.size := rfl
      go_wp2_with fail
      refine T.out.mono ?_
      rintro e w9 ⟨rfl, b3, h2⟩
      obtain ⟨S2, hz1, hz2⟩ := h2.out
      obtain ⟨Z2, hZ2⟩ : ∃ Z, w9.heap.size = Z := ⟨_, rfl⟩
      obtain ⟨Y1, hY1⟩ : ∃ Z, wr.heap.size = Z := ⟨_, rfl⟩
      rw [hZ2, hY1] at S2
      have hz3 : N < Z2 := by
        have := hlo
        omega
      obtain ⟨Rb, hRb⟩ : ∃ R, R2 (Rp N D X (rm cs (q5 cs) 0 7) (rm cs (q7 cs) 0 256)) (X + 1 + 1 + 1 + 1) Y1 (.slice a1 j n1) (ppl cs (q6 cs) j) = R := ⟨_, rfl⟩
      rw [hRb] at S2
      have HX : Hid (∀ V, Rb V → V.cell? ⟨X, 0, none⟩ = some (.pointer (some ⟨D, 0, none⟩))) := fun V hV => by
        rw [← hRb] at hV
        exact cell_of hV.1.2.1 0
      have S2 := Lib.hid S2
      have HRb := Lib.hid hRb
      clear T h2 hz1 hz2 hZ2 hY1 hRb
      have STEP2 : Hid (∀ i d V, i < nd cs → Hid (L2 76 c1 w (Ft D q cs) D q cs (X + 1) Z2 cN Rb (.slice a1 j n1) i d V) → V.drew.cell? ⟨X, 0, none⟩ = some (.pointer (some ⟨D, 0, none⟩)) ∧ V.drew.cell? ⟨X + 1, 7, none⟩ = some d ∧
          Hid (Calls Try.prog 37 #[.pointer (some ⟨D, 0, none⟩)] V.drew fun e B => ∃ x', e = .returned (.int .i64 x') ∧ B.cell? ⟨X + 1, 7, none⟩ = some d ∧ (B.alloc (.cells #[.int .i64 x'] 3)).cell? ⟨X + 1, 7, none⟩ = some d ∧ Hid (∀ ty, ∃ v' w', (Builtin.append_ #[25, 25] ty #[d, .slice (some ⟨B.heap.size, 0, none⟩) 1 1]).run Try.prog (B.alloc (.cells #[.int .i64 x'] 3)) = .ok v' w' ∧
          ((∃ p c, v' = .slice p (i + 1) c) ∧ w'.cell? ⟨X + 1, 7, none⟩ = some d ∧ w'.frozen? ⟨X + 1, 7, none⟩ = false ∧ Hid (L2 76 c1 w (Ft D q cs) D q cs (X + 1) Z2 cN Rb (.slice a1 j n1) (i + 1) v' (w'.setCell ⟨X + 1, 7, none⟩ v')))))) := fun i d V hi h =>
        have hd := h.out.drewN 1
        ⟨HX.out _ hd.1.rest, hd.1.cell 7, hd.step (int7 hd.1.tape) (by omega)⟩
      have END2 : Hid (∀ d V, Hid (L2 76 c1 w (Ft D q cs) D q cs (X + 1) Z2 cN Rb (.slice a1 j n1) (nd cs) d V) → ∃ a2 n2, d = .slice a2 (nd cs) n2 ∧ V.cell? ⟨X, 0, none⟩ = some (.pointer (some ⟨D, 0, none⟩)) ∧ Hid (Calls Try.prog 39 #[.pointer (some ⟨D, 0, none⟩)] V fun e B => ∃ Z3 Rc, e = .returned (.int .i64 ((cs.length - q9 cs : Nat) : Int)) ∧ Hid (R3 Rb Z2 Z3 d (dl cs (q8 cs) (nd cs)) = Rc ∧ N < Z3) ∧ Hid (L3 76 c1 w (Ft D q cs) D q cs (X + 1) Z3 cN Rc (.slice a1 j n1) d 0 nl B))) := fun d V h => by
        obtain ⟨a2, n2, hd⟩ := h.out.sl
        refine ⟨a2, n2, hd, HX.out _ h.out.1.rest, (left14 h.out.1.tape).mono fun e B ⟨he, i, hB⟩ => ?_⟩
        subst hB
        exact ⟨_, _, he, ⟨rfl, by have := h.out.1.hZ; show N < V.heap.size; omega⟩, L3.start (h.out.drewN i)⟩
      generalize hdd : nd cs = dd at *
      go_wp2_with fail
      go_loopw [55] (fun i wr => ∃ k : Nat, k ≤ dd ∧ i = .int .i64 k ∧ ∃ d, Hid (L2 76 c1 w (Ft D q cs) D q cs (X + 1) Z2 cN Rb (.slice a1 j n1) k d wr)) (fun i _ => dd - (intOf i).toNat)
      case atStart => exact ⟨0, by omega, rfl, _, S2⟩
      case round =>
        obtain ⟨k, hk, rfl, d, hR⟩ := hrel
        clear S2 b3
        by_cases hlt : k < dd
        · obtain ⟨cx, c5, T⟩ := STEP2.out k d _ hlt hR
          clear STEP2 END2 LO hR
          go_wp2_with fail
          go_region_law (first | (go_simp; go_at_call 37; refine T.out.mono ?_; rintro e w10 ⟨x', rfl, d5, d6, A⟩) | (refine step_ex _ (by rfl) _ _ 25 (by rfl) _ _ (by rfl) (by rfl) (A.out _) ?_; rintro v3 w11 ⟨⟨a3, c3, rfl⟩, g5, f5, q5⟩))
          all_goals (
            go_wp2
            go_roundw
            case rel => exact ⟨k + 1, by omega, by simp, _, q5⟩
            case measure => simp [intOf]; omega)
        · obtain rfl : k = dd := by omega
          obtain ⟨a2, n2, rfl, cx, T⟩ := END2.out d _ hR
          clear STEP2 END2 hR
          go_wp2_with fail
          refine T.out.mono ?_
          rintro e w10 ⟨Z3, Rc, rfl, hRc, S3⟩
          have HX3 : Hid (∀ V, Rc V → V.cell? ⟨X, 0, none⟩ = some (.pointer (some ⟨D, 0, none⟩))) := fun V hV => by
            rw [← hRc.out.1] at hV
            exact HX.out _ hV.1
          have hmk : min ((cs.length - q9 cs : Nat) : Int) 4096 = (nk cs : Int) := by
            unfold nk
            omega
          have hk6 : nk cs ≤ 4096 := by
            unfold nk
            omega
          have STEP3 : Hid (∀ i d V, i < nk cs → Hid (L3 76 c1 w (Ft D q cs) D q cs (X + 1) Z3 cN Rc (.slice a1 j n1) (.slice a2 k n2) i d V) → V.drew.cell? ⟨X, 0, none⟩ = some (.pointer (some ⟨D, 0, none⟩)) ∧ V.drew.cell? ⟨X + 1, 6, none⟩ = some d ∧
              Hid (Calls Try.prog 40 #[.pointer (some ⟨D, 0, none⟩)] V.drew fun e B => ∃ x', e = .returned (.int .i64 x') ∧ B.cell? ⟨X + 1, 6, none⟩ = some d ∧ (B.alloc (.cells #[.int .i64 x'] 3)).cell? ⟨X + 1, 6, none⟩ = some d ∧ Hid (∀ ty, ∃ v' w', (Builtin.append_ #[25, 25] ty #[d, .slice (some ⟨B.heap.size, 0, none⟩) 1 1]).run Try.prog (B.alloc (.cells #[.int .i64 x'] 3)) = .ok v' w' ∧
              ((∃ p c, v' = .slice p (i + 1) c) ∧ w'.cell? ⟨X + 1, 6, none⟩ = some d ∧ w'.frozen? ⟨X + 1, 6, none⟩ = false ∧ Hid (L3 76 c1 w (Ft D q cs) D q cs (X + 1) Z3 cN Rc (.slice a1 j n1) (.slice a2 k n2) (i + 1) v' (w'.setCell ⟨X + 1, 6, none⟩ v')))))) := fun i d V hi h =>
            have hd := h.out.drewN 1
            ⟨HX3.out _ hd.1.rest, hd.1.cell 6, hd.step (byte9 hd.1.tape) (by omega)⟩
          have hpar : parse cs = ⟨cN, ppl cs (q6 cs) j, kl cs (q9 cs) (nk cs), dl cs (q8 cs) k⟩ := by
            unfold parse
            rw [hcN, hnn, hdd]
          have hsv : ∀ x, sv (parse cs) x = svl cN x.p j x.pc x.k (nk cs) x.kc x.d k x.dc := fun x => by rw [sv_parse, hcN, hnn, hdd]
          obtain ⟨m0, m1, m2, m3, m4⟩ := cN
          have FIN : Hid (∀ d V, Hid (L3 76 c1 w (Ft D q cs) D q cs (X + 1) Z3 ⟨m0, m1, m2, m3, m4⟩ Rc (.slice a1 j n1) (.slice a2 k n2) (nk cs) d V) → ∃ a3 n3, d = .slice a3 (nk cs) n3 ∧ At8 V N (.int .i64 0) (.int .i64 0) (.int .i64 0) (.int .i64 0) (.int .i64 0) nl nl nl ∧ Fz8 V N ∧ At8 V (X + 1) (.int .i64 m0) (.int .i64 m1) (.int .i64 m2) (.int .i64 m3) (.int .i64 m4) (.slice a1 j n1) (.slice a3 (nk cs) n3) (.slice a2 k n2) ∧
              Hid (∀ C, set8 V N (.int .i64 m0) (.int .i64 m1) (.int .i64 m2) (.int .i64 m3) (.int .i64 m4) (.slice a1 j n1) (.slice a3 (nk cs) n3) (.slice a2 k n2) = C → At8 C N (.int .i64 m0) (.int .i64 m1) (.int .i64 m2) (.int .i64 m3) (.int .i64 m4) (.slice a1 j n1) (.slice a3 (nk cs) n3) (.slice a2 k n2) ∧ Hid (Sc C (parse cs) ⟨a1, n1, a3, n3, a2, n2⟩ ∧ Below w.heap.size w C))) := fun d V h => by
            obtain ⟨a3, n3, rfl⟩ := h.out.sl
            have h' := h.out
            rw [← hRc.out.1, ← HRb.out] at h'
            obtain ⟨f1, f2, f3, f4⟩ := h'.fin rfl hN.symm (by omega) hz3 hRc.out.2 fun V hV => hV.1
            rw [hpar]
            exact ⟨a3, n3, rfl, f1, f2, f3, f4⟩
          replace hsv := Lib.hid hsv
          clear hpar HX HX3 HRb hRc LO
          generalize hkk : nk cs = kk at *
          generalize cs.length - q9 cs = lf at *
          go_wp2_with fail
          go_loopw [68] (fun i wr => ∃ l : Nat, l ≤ kk ∧ i = .int .i64 l ∧ ∃ d, Hid (L3 76 c1 w (Ft D q cs) D q cs (X + 1) Z3 ⟨m0, m1, m2, m3, m4⟩ Rc (.slice a1 j n1) (.slice a2 k n2) l d wr)) (fun i _ => kk - (intOf i).toNat)
          case atStart => exact ⟨0, by omega, rfl, _, S3⟩
          case round =>
            obtain ⟨l, hl, rfl, d, hR⟩ := hrel
            clear S3 cx
            by_cases hlt : l < kk
            · obtain ⟨cx, c5, T⟩ := STEP3.out l d _ hlt hR
              clear STEP3 FIN hR
              go_wp2_with fail
              go_region_law (first | (go_simp; go_at_call 40; refine T.out.mono ?_; rintro e w11 ⟨x', rfl, d5, d6, A⟩) | (refine step_ex _ (by rfl) _ _ 25 (by rfl) _ _ (by rfl) (by rfl) (A.out _) ?_; rintro v3 w12 ⟨⟨a3, c3, rfl⟩, g5, f5, q5⟩))
              all_goals (
                go_wp2
                go_roundw
                case rel => exact ⟨l + 1, by omega, by simp, _, q5⟩
                case measure => simp [intOf]; omega)
            · obtain rfl : l = kk := by omega
              obtain ⟨a3, n3, rfl, ⟨r0, r1, r2, r3, r4, r5, r6, r7⟩, ⟨f0, f1, f2, f3, f4, f5, f6, f7⟩, ⟨s0, s1, s2, s3, s4, s5, s6, s7⟩, FN⟩ := FIN.out d _ hR
              clear STEP3 FIN hR
              go_wp2
              obtain ⟨C, hC⟩ : ∃ C, set8 wr N (.int .i64 m0) (.int .i64 m1) (.int .i64 m2) (.int .i64 m3) (.int .i64 m4) (.slice a1 j n1) (.slice a3 l n3) (.slice a2 k n2) = C := ⟨_, rfl⟩
              obtain ⟨⟨z0, z1, z2, z3, z4, z5, z6, z7⟩, F⟩ := FN.out C hC
              unfold set8 at hC
              rw [hC]
              refine bodyPost_ret (v := svl ⟨m0, m1, m2, m3, m4⟩ a1 j n1 a3 l n3 a2 k n2) (by simp [results, Try.results17, go_sem, z0, z1, z2, z3, z4, z5, z6, z7]) rfl ⟨⟨a1, n1, a3, n3, a2, n2⟩, ?_, F⟩
              rw [hsv.out]
end Go.Proofs.Ytfhcgildokdppaa
