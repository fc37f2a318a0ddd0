/-
  ProgBack walked: for every slice of bytes and every slice of calls it returns true, where the names read as they were laid; what was in memory stays.
-/
import Derived.Test.YtfpikafnakeijaaDoorAw
import Derived.Deep.RegionHeldLaw
namespace Go.Proofs.YtfpikafnakeijaaDoor
open Go.RowKit Go.Shelf tp
theorem step_ex {P : Program} (w : World) {ops : Array Oper} {o : Oper} {a : Act} {K : Act → World → Prop} {Q : Exit → Act → World → Prop} {E : Prop} (hgd : o.guard = none) (s x : Operand) (t : TypeId)
    (ho : o.op = .call { callee := .builtin .append, args := #[s, x], argTypes := #[t, t] }) (v u : Value) (hs : a.eval s = v) (hx : a.eval x = u) {R : Value → World → Prop}
    (hrun : ∃ v' w', (Builtin.append_ #[t, t] o.type #[v, u]).run P w = .ok v' w' ∧ R v' w') (h : ∀ v' w', R v' w' → K (a.put o.dst v') w') :
    if Region.wanted o (yielded ops a.tmps) = true then Oper.wp P o a w K Q else E := by
  have hw : Region.wanted o (yielded ops a.tmps) = true := by simp [Region.wanted, hgd]
  rw [if_pos hw]
  obtain ⟨v', w', hr, hR⟩ := hrun
  unfold Oper.wp execOp
  simp only [ho, resolve, invoke, builtin, Sem.run_bind, Sem.run_pure, Result.andThen_ok, List.map_toArray, List.map_cons, List.map_nil, hs, hx, hr]
  exact h v' w' hR
/-- what Put left behind, as it reads later. -/
theorem Pb.row {w w1 V : World} {v : Option Addr} {k c : Nat} {all : List Nat} (h : Pb w v k c all w1) (hb : Below w1.heap.size w1 V) : k = all.length ∧ La e8 V v all ∧ (v = none → all = [] ∧ c = 0) ∧ all.length ≤ c ∧ Below w.heap.size w V := by
  obtain ⟨rfl, hC⟩ := h
  obtain ⟨q, c', e, h3, h4, h5, h6⟩ := own_la hC.1
  injection e with e1 _ e2
  subst e1 e2
  exact ⟨rfl, h4.below hb, h5, h3, hC.2.trans (hb.mono hC.2.size)⟩
/-- what is read back: the tape at its end, the calls in r. -/
structure Bk (w : World) (D c : Nat) (q : Option Addr) (X : List Nat) (l : List Opn) (r : Option Addr) (V : World) : Prop where
  old : Below w.heap.size w V
  tape : Tp 55 c V D q X X.length
  row : Ea V r l
theorem Bk.below {w V B : World} {D c : Nat} {q r : Option Addr} {X : List Nat} {l : List Opn} (h : Bk w D c q X l r V) (g : Below V.heap.size V B) : Bk w D c q X l r B :=
  ⟨h.old.trans (g.mono h.old.size), h.tape.below g, h.row.below g⟩
set_option maxRecDepth 100000 in
set_option maxHeartbeats 4000000 in
theorem back_fine (p : Option Addr) (cap : Nat) (bs : List Nat) (r : Option Addr) (cap' : Nat) (l : List Opn) {w : World} (hN : Names w) (hn : p = none → bs = [] ∧ cap = 0) (hr : La e8 w p bs) (hl : Ea w r l) (ho : ∀ o ∈ l, o.ok) (hb50 : bs.length ≤ 50) (hf : fine l) :
    Calls Tryd.prog 5 #[.slice p bs.length cap, .slice r l.length cap'] w fun e B => e = .returned (.bool true) ∧ Below w.heap.size w B := by
  have h24 := hf.1
  have T20 := Lib.hid (put20 p cap bs r cap' l w hn (by omega) hr hl ho hf)
  have hX := pl_put l hf ho
  obtain ⟨X, hXe⟩ : ∃ X, ens (pus l) = X := ⟨_, rfl⟩
  have hXb : Bs X := by rw [← hXe]; exact ens_bs _
  have hX0 : 1 ≤ X.length := by rw [← hXe, ens_pus h24]; simp
  have hX1 : X.length ≤ 2000 := by
    rw [← hXe, ens_pus h24]
    have := eos_len l
    simp only [List.length_cons]
    omega
  obtain ⟨all, hall⟩ : ∃ all, bs ++ X = all := ⟨_, rfl⟩
  have hal : all.length = bs.length + X.length := by rw [← hall, List.length_append]
  have hdrop : all.drop bs.length = X := by rw [← hall]; simp
  have hpn : pn X 0 = l.length := by
    have := congrArg List.length hX.1
    unfold pl at this
    rw [ql_len, hXe] at this
    exact this
  rw [hXe] at T20 hX
  rw [hall] at T20
  have T13 : Hid (∀ v k c w1, Hid (Pb w v k c all w1) → Calls Tryd.prog 13 #[.slice r l.length cap'] w1 fun e B => e = .returned (.bool true) ∧ Hid (Below w1.heap.size w1 B)) := fun v k c w1 h => by
    have := reffine13 r l cap' w1 (hl.below (h.out.row (Below.refl _ _)).2.2.2.2) (by omega)
    rw [decide_eq_true hf] at this
    exact this
  have CV : Hid (∀ v k c w1 V, Hid (Pb w v k c all w1) → Hid (Below w1.heap.size w1 V) → (convert 32 9 (.slice v k c)).run Tryd.prog V = .ok (.string (str all)) V) := fun v k c w1 V h hV => by
    obtain ⟨rfl, h2, _⟩ := h.out.row hV.out
    exact string_of c h2
  have A4 : Hid (∀ v k c w1 V, Hid (Pb w v k c all w1) → Hid (Below w1.heap.size w1 V) → ∀ ty, ∃ v' w', (Builtin.append_ #[32, 32] ty #[.slice (some ⟨V.heap.size, 0, none⟩) 0 0, .slice p bs.length cap]).run Tryd.prog (V.alloc (.cells #[] 5)) = .ok v' w' ∧ ((∃ a c, v' = .slice a bs.length c) ∧ (convert 32 9 (.slice v k c)).run Tryd.prog w' = .ok (.string (str all)) w' ∧ Hid (Made V.heap.size V v' bs w' ∧ Below w1.heap.size w1 V))) := fun v k c w1 V h hV ty => by
    obtain ⟨_, _, _, _, hw⟩ := h.out.row hV.out
    obtain ⟨v', w', hrun, hsl, hM⟩ := copy_row (hr.below hw) hn (by omega) ty
    have hb : Below V.heap.size V w' := hM.out.2.1.below (fun _ hk => hk) (Nat.le_refl _)
    exact ⟨v', w', hrun, hsl, CV.out v k c w1 w' h (hV.out.trans (hb.mono hV.out.size)), hM.out, hV.out⟩
  have T21 : Hid (∀ v k c w1 V u W, Hid (Pb w v k c all w1) → Hid (Made V.heap.size V u bs W ∧ Below w1.heap.size w1 V) → Calls Tryd.prog 21 #[.slice r l.length cap'] W fun e B => ∃ q2 n2 c2, e = .returned (.slice q2 n2 c2) ∧ (convert 32 9 (.slice v k c)).run Tryd.prog B = .ok (.string (str all)) B ∧ Hid (Made V.heap.size V u bs W ∧ Pb W q2 n2 c2 X B ∧ Below w1.heap.size w1 V)) := fun v k c w1 V u W h hM => by
    have hb : Below V.heap.size V W := hM.out.1.2.1.below (fun _ hk => hk) (Nat.le_refl _)
    have hb1 : Below w1.heap.size w1 W := hM.out.2.trans (hb.mono hM.out.2.size)
    refine (refput21 r cap' l W (hl.below (h.out.row hb1).2.2.2.2) ho hf).mono ?_
    rintro e B ⟨q2, n2, c2, he, hP⟩
    rw [hXe] at hP
    exact ⟨q2, n2, c2, he, CV.out v k c w1 B h (hb1.trans (hP.out.2.2.mono hb1.size)), hM.out.1, hP.out, hM.out.2⟩
  have A7 : Hid (∀ v k c w1 V u W B q2 n2 c2, Hid (Pb w v k c all w1) → Hid (Made V.heap.size V u bs W ∧ Pb W q2 n2 c2 X B ∧ Below w1.heap.size w1 V) → ∀ ty, ∃ v' w', (Builtin.append_ #[32, 32] ty #[u, .slice q2 n2 c2]).run Tryd.prog B = .ok v' w' ∧ ((∃ a k c, v' = .slice a k c) ∧ (convert 32 9 (.slice v k c)).run Tryd.prog w' = .ok (.string (str all)) w' ∧ (convert 32 9 v').run Tryd.prog w' = .ok (.string (str all)) w' ∧ Hid (Below w1.heap.size w1 w'))) := fun v k c w1 V u W B q2 n2 c2 h hM ty => by
    obtain ⟨hM1, hP, hV⟩ := hM.out
    obtain ⟨v', w', hrun, ⟨a, c', hsl⟩, hM2⟩ := join_rows hM1 hP.1 hP.2 (by omega) ty
    rw [hall] at hsl hM2
    have hb : Below V.heap.size V w' := hM2.out.2.1.below (fun _ hk => hk) (Nat.le_refl _)
    have hb1 : Below w1.heap.size w1 w' := hV.trans (hb.mono hV.size)
    obtain ⟨q', c3, e, g3, g4, g5, g6⟩ := own_la hM2.out.1
    exact ⟨v', w', hrun, ⟨a, _, c', hsl⟩, CV.out v k c w1 w' h hb1, by rw [e]; exact string_of c3 g4, hb1⟩
  have T15 : Hid (∀ v k c w1 V, Hid (Pb w v k c all w1) → Hid (Below w1.heap.size w1 V) → ∃ p', (∀ W', (Instr.slice 32 (.slice v k c) (some (.int .i64 (bs.length : Int))) none none).run Tryd.prog W' = .ok (.slice p' (k - bs.length) (c - bs.length)) W') ∧
      Hid (Calls Tryd.prog 15 #[.slice p' (k - bs.length) (c - bs.length)] V fun e B => ∃ D cD q, e = .returned (.pointer (some ⟨D, 0, none⟩)) ∧ Hid (Nw V D cD q X B ∧ Below w.heap.size w V))) := fun v k c w1 V h hV => by
    obtain ⟨rfl, h2, h3, h4, h5⟩ := h.out.row hV.out
    obtain ⟨p', hp, hp1, hp2, hp3⟩ := cut_l v all.length c bs.length (by omega) h4
    refine ⟨p', hp, ?_⟩
    have hd := h2.drop bs.length (fun b o hq hlt => hp1 b o hq hlt)
    rw [hdrop] at hd
    have e : all.length - bs.length = X.length := by omega
    rw [e]
    refine (new6 p' X (c - bs.length) V (fun hnone => ?_) (by omega) hXb hd).mono fun e B ⟨D, cD, q, he, hNw⟩ => ⟨D, cD, q, he, hNw.out, h5⟩
    have := (h3 (hp3 hnone)).1
    rw [this] at hal
    simp at hal
    omega
  have T16 : Hid (∀ V D cD q B, Hid (Nw V D cD q X B ∧ Below w.heap.size w V) → Calls Tryd.prog 16 #[.pointer (some ⟨D, 0, none⟩)] B fun e C => ∃ r2 c2, e = .returned (.slice r2 l.length c2) ∧ Hid (Bk w D cD q X l r2 C)) := fun V D cD q B h => by
    obtain ⟨h1, h2⟩ := h.out
    refine (read16 h1.1).mono ?_
    rintro e C ⟨r2, c2, he, hR⟩
    obtain ⟨g1, g2, g3⟩ := hR.out
    rw [hX.1] at g2
    rw [hX.2] at g1
    obtain ⟨q', c', e', k1, k2, k3, k4⟩ := Ea.of_own g2.1
    injection e' with e1 e2 _
    subst e1
    have hbB : Below w.heap.size w B := h2.trans (h1.2.2.2.mono h2.size)
    refine ⟨r2, c2, by rw [he, hpn], hbB.trans (g2.2.1.below (fun j hj => ⟨by have := hbB.size; omega, fun hft => ?_⟩) hbB.size), g1, k2⟩
    have hz := h2.size
    rcases hft with rfl | ⟨h0, o, hq⟩
    · have := h1.2.1
      omega
    · have := h1.2.2.1 _ _ hq
      omega
  have T17 : Hid (∀ D cD q r2 c2 V, Hid (Bk w D cD q X l r2 V) → Calls Tryd.prog 17 #[.slice r2 l.length c2, .slice r l.length cap'] V fun e B => e = .returned (.bool true) ∧ Hid (Bk w D cD q X l r2 B)) := fun D cD q r2 c2 V h => by
    refine (same17 r2 r l l c2 cap' V h.out.row (hl.below h.out.old) (by omega)).mono ?_
    rintro e B ⟨he, hB⟩
    exact ⟨by rw [he, decide_eq_true rfl], h.out.below hB.out⟩
  have T22 : Hid (∀ D cD q r2 V, Hid (Bk w D cD q X l r2 V) → Calls Tryd.prog 22 #[.pointer (some ⟨D, 0, none⟩)] V fun e B => e = .returned (.int .i64 0) ∧ Hid (Bk w D cD q X l r2 B)) := fun D cD q r2 V h =>
    (left14 h.out.tape).mono fun e B ⟨he, j, hB⟩ => ⟨by rw [he, Nat.sub_self]; rfl, by rw [hB]; exact h.out.below (below_drewN V j)⟩
  have T6 : Hid (∀ D cD q r2 V, Hid (Bk w D cD q X l r2 V) → Calls Tryd.prog 6 #[] V fun e B => e = .returned (.bool true) ∧ Hid (Below w.heap.size w B)) := fun D cD q r2 V h =>
    (awake6 (hN.below hN.1 h.out.old)).mono fun e B ⟨he, hB⟩ => ⟨he, h.out.old.trans (hB.out.mono h.out.old.size)⟩
  clear hr hl ho hf hN hn hX hXe hXb hall hdrop hpn hal hX0 hX1
  generalize str all = st at *
  generalize bs.length = m at *
  generalize l.length = n at *
  have d1 : decide ((40 : Int) < (n : Int)) = false := decide_eq_false (by omega)
  have d2 : decide ((50 : Int) < (m : Int)) = false := decide_eq_false (by omega)
  go_enter Tryd.func5, Tryd.ntmps5
  go_wp2_with fail
  refine T20.out.mono ?_
  rintro e w1 ⟨v, k, c, rfl, hP⟩
  have T13' := Lib.hid (T13.out _ _ _ _ hP)
  clear T20 T13
  go_wp2_with fail
  refine T13'.out.mono ?_
  rintro e w2 ⟨rfl, h2⟩
  have hB2 : Hid (Below w1.heap.size w1 w2.drew) := h2.out.trans ((below_drewN w2 1).mono h2.out.size)
  have hB2a : Hid (Below w1.heap.size w1 (w2.drew.alloc (.cells #[] 5))) := hB2.out.trans (((Below.refl _ _).alloc (Nat.le_refl _) _).mono hB2.out.size)
  have K0 : Hid ((convert 32 9 (.slice v k c)).run Tryd.prog w2.drew = .ok (.string st) w2.drew) := CV.out _ _ _ _ _ hP hB2
  have K1 : Hid ((convert 32 9 (.slice v k c)).run Tryd.prog (w2.drew.alloc (.cells #[] 5)) = .ok (.string st) (w2.drew.alloc (.cells #[] 5))) := CV.out _ _ _ _ _ hP hB2a
  have A4' : Hid (∀ ty, ∃ v' w', (Builtin.append_ #[32, 32] ty #[.slice (some ⟨w2.heap.size, 0, none⟩) 0 0, .slice p m cap]).run Tryd.prog (w2.drew.alloc (.cells #[] 5)) = .ok v' w' ∧ ((∃ a c, v' = .slice a m c) ∧ (convert 32 9 (.slice v k c)).run Tryd.prog w' = .ok (.string st) w' ∧ Hid (Made w2.drew.heap.size w2.drew v' bs w' ∧ Below w1.heap.size w1 w2.drew))) := A4.out _ _ _ _ _ hP hB2
  clear T13' A4 h2 hB2 hB2a CV
  go_wp2_with fail
  go_region_held_law (fun V => (convert 32 9 (.slice v k c)).run Tryd.prog V = .ok (.string st) V) (first | exact K0.out | exact K1.out | assumption) (first
    | (refine step_ex _ (by rfl) _ _ 32 (by rfl) _ _ (by rfl) (by rfl) (A7.out _ _ _ _ _ _ _ _ _ _ _ hP h21 _) ?_; rintro v7 w7 ⟨⟨a7, k7, c7, rfl⟩, s7, s7', h7⟩)
    | (go_at_call 21; refine (T21.out _ _ _ _ _ _ _ hP h4).mono ?_; rintro e w6 ⟨q2, n2, c2, rfl, s6, h21⟩)
    | (refine step_ex _ (by rfl) _ _ 32 (by rfl) _ _ (by rfl) (by rfl) (A4'.out _) ?_; rintro v4 w4 ⟨⟨a4, c4, rfl⟩, s4, h4⟩))
  obtain ⟨p', hp', T15'⟩ := T15.out _ _ _ _ _ hP h7
  clear A7 T21 h4 h21 hP h7 T15 K0 K1 A4' s4 s6 s7 s7'
  go_wp2_with fail
  refine T15'.out.mono ?_
  rintro e w8 ⟨D, cD, q, rfl, h8⟩
  have T16' := Lib.hid (T16.out _ _ _ _ _ h8)
  clear T15' T16 h8
  go_wp2_with fail
  refine T16'.out.mono ?_
  rintro e w9 ⟨r2, c2, rfl, h9⟩
  have T17' := Lib.hid (T17.out _ _ _ _ c2 _ h9)
  clear T16' T17 h9
  go_wp2_with fail
  refine T17'.out.mono ?_
  rintro e w10 ⟨rfl, h10⟩
  have T22' := Lib.hid (T22.out _ _ _ _ _ h10)
  clear T17' T22 h10
  go_wp2_with fail
  refine T22'.out.mono ?_
  rintro e w11 ⟨rfl, h11⟩
  have T6' := Lib.hid (T6.out _ _ _ _ _ h11)
  clear T22' T6 h11
  go_wp2_with fail
  refine T6'.out.mono ?_
  rintro e w12 ⟨rfl, h12⟩
  clear T6'
  go_wp2
  go_ret
  exact ⟨rfl, h12.out⟩
set_option maxRecDepth 100000 in
set_option maxHeartbeats 2000000 in
theorem back_walk (p : Option Addr) (cap : Nat) (bs : List Nat) (r : Option Addr) (cap' : Nat) (l : List Opn) {w : World} (hN : Names w) (hn : p = none → bs = [] ∧ cap = 0) (hr : La e8 w p bs) (hl : Ea w r l) (ho : ∀ o ∈ l, o.ok) :
    Calls Tryd.prog 5 #[.slice p bs.length cap, .slice r l.length cap'] w fun e B => e = .returned (.bool true) ∧ Below w.heap.size w B := by
  have T6 : Hid (∀ V, Hid (Below w.heap.size w V) → Calls Tryd.prog 6 #[] V fun e B => e = .returned (.bool true) ∧ Hid (Below w.heap.size w B)) := fun V h =>
    (awake6 (hN.below hN.1 h.out)).mono fun e B ⟨he, hB⟩ => ⟨he, h.out.trans (hB.out.mono h.out.size)⟩
  have B0 : Hid (Below w.heap.size w w) := Below.refl _ _
  by_cases hlen : l.length ≤ 40 ∧ bs.length ≤ 50
  · by_cases hf : fine l
    · exact back_fine p cap bs r cap' l hN hn hr hl ho hlen.2 hf
    · have T20 := Lib.hid (put20_not p bs.length cap r cap' l w hl hf)
      have T13 : Hid (∀ V, Hid (Below w.heap.size w V) → Calls Tryd.prog 13 #[.slice r l.length cap'] V fun e B => e = .returned (.bool false) ∧ Hid (Below w.heap.size w B)) := fun V h => by
        have := reffine13 r l cap' V (hl.below h.out) (by omega)
        rw [decide_eq_false hf] at this
        exact this.mono fun e B ⟨he, hB⟩ => ⟨he, h.out.trans (hB.out.mono h.out.size)⟩
      clear hN hn hr hl ho hf B0
      generalize bs.length = m at *
      generalize l.length = n at *
      have d1 : decide ((40 : Int) < (n : Int)) = false := decide_eq_false (by omega)
      have d2 : decide ((50 : Int) < (m : Int)) = false := decide_eq_false (by omega)
      go_enter Tryd.func5, Tryd.ntmps5
      go_wp2_with fail
      refine T20.out.mono ?_
      rintro e w1 ⟨rfl, h1⟩
      have T13' := Lib.hid (T13.out _ h1)
      clear T20 T13 h1
      go_wp2_with fail
      refine T13'.out.mono ?_
      rintro e w2 ⟨rfl, h2⟩
      have T6' := Lib.hid (T6.out _ h2)
      clear T13' T6 h2
      go_wp2_with fail
      refine T6'.out.mono ?_
      rintro e w3 ⟨rfl, h3⟩
      clear T6'
      go_wp2
      go_ret
      exact ⟨rfl, h3.out⟩
  · have T := Lib.hid (T6.out _ B0)
    clear hN hn hr hl ho T6
    generalize bs.length = m at *
    generalize l.length = n at *
    have Z : decide ((40 : Int) < (n : Int)) = true ∨ (decide ((40 : Int) < (n : Int)) = false ∧ decide ((50 : Int) < (m : Int)) = true) := by
      by_cases h : n ≤ 40
      · exact .inr ⟨decide_eq_false (by omega), by simp; omega⟩
      · exact .inl (by simp; omega)
    clear hlen
    rcases Z with d1 | ⟨d1, d2⟩
    all_goals (
      go_enter Tryd.func5, Tryd.ntmps5
      go_wp2_with fail
      refine T.out.mono ?_
      rintro e w1 ⟨rfl, h1⟩
      go_wp2
      go_ret
      exact ⟨rfl, h1.out⟩)
end Go.Proofs.YtfpikafnakeijaaDoor
