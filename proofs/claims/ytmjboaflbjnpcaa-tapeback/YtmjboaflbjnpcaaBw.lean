/-
  TapeBack walked: for every slice of bytes and every slice of ints it returns true; what was in memory stays.
-/
import Derived.Test.YtmjboaflbjnpcaaAw
import Derived.Test.YtmjboaflbjnpcaaRp
namespace Go.Proofs.Ytmjboaflbjnpcaa
open Go.RowKit
/-- the program's tape stands at a. -/
structure Bk (w : World) (D c : Nat) (q : Option Addr) (bs : List Nat) (a : Nat) (V : World) : Prop where
  old : Below w.heap.size w V
  tape : Tp 38 c V D q bs a
  hD : w.heap.size ≤ D
namespace Bk
variable {w V : World} {D c : Nat} {q : Option Addr} {bs : List Nat} {a : Nat}
theorem go {a' : Nat} {B : World} (h : Bk w D c q bs a V) (g : Go1 38 c V D q bs a' B) : Bk w D c q bs a' B := ⟨h.old.trans (g.2.below (fun k hk e => by have := h.hD; omega) h.old.size), g.1, h.hD⟩
theorem below {B : World} (h : Bk w D c q bs a V) (g : Below V.heap.size V B) : Bk w D c q bs a B := ⟨h.old.trans (g.mono h.old.size), h.tape.below g, h.hD⟩
theorem i7 (h : Bk w D c q bs a V) : Calls Try.prog 7 #[.pointer (some ⟨D, 0, none⟩)] V fun e B => e = .returned (.int .i64 (iv bs a)) ∧ Hid (Bk w D c q bs (ia bs a) B) :=
  (int7 h.tape).mono fun _ _ ⟨he, g⟩ => ⟨he, h.go g.out⟩
theorem b9 (h : Bk w D c q bs a V) : Calls Try.prog 9 #[.pointer (some ⟨D, 0, none⟩)] V fun e B => e = .returned (.int .i64 (bt bs a : Int)) ∧ Hid (Bk w D c q bs (nx bs a) B) :=
  (byte9 h.tape).mono fun _ _ ⟨he, g⟩ => ⟨he, h.go g.out⟩
theorem a13 (h : Bk w D c q bs a V) : Calls Try.prog 13 #[.pointer (some ⟨D, 0, none⟩)] V fun e B => e = .returned (.int .i64 (a : Int)) ∧ Hid (Bk w D c q bs a B) :=
  (at13 h.tape).mono fun _ _ ⟨he, e⟩ => ⟨he, e ▸ h⟩
theorem l14 (h : Bk w D c q bs a V) : Calls Try.prog 14 #[.pointer (some ⟨D, 0, none⟩)] V fun e B => e = .returned (.int .i64 ((bs.length - a : Nat) : Int)) ∧ Hid (Bk w D c q bs a B) :=
  (left14 h.tape).mono fun _ _ ⟨he, j, e⟩ => ⟨he, e ▸ h.below (below_drewN V j)⟩
theorem k5 (h : Bk w D c q bs a V) : Calls Try.prog 5 #[] V fun e B => e = .returned (.bool true) ∧ Hid (Bk w D c q bs a B) :=
  (awake5 V).mono fun _ _ ⟨he, g⟩ => ⟨he, h.below g.out⟩
end Bk
/-- where the number j begins. -/
def ps (bs : List Nat) (ls : List Int) (j : Nat) : Nat := (bs ++ ens (ls.take j)).length
theorem ps_zero (bs : List Nat) (ls : List Int) : ps bs ls 0 = bs.length := by simp [ps, ens]
theorem ps_end (bs : List Nat) (ls : List Int) : ps bs ls ls.length = (bs ++ ens ls).length := by unfold ps; rw [List.take_length]
theorem ps_next (bs : List Nat) (ls : List Int) (j : Nat) (h : j < ls.length) : ps bs ls (j + 1) = ps bs ls j + (en ls[j]).length := by
  unfold ps
  rw [← ens_take ls j h]
  simp
  omega
theorem ens_split (ls : List Int) (j : Nat) (h : j < ls.length) : ens ls = ens (ls.take j) ++ en ls[j] ++ ens (ls.drop (j + 1)) := by
  rw [ens_take ls j h]
  unfold ens
  rw [← List.flatMap_append, List.take_append_drop]
theorem ps_read (bs : List Nat) (ls : List Int) (j : Nat) (h : j < ls.length) (hr : -9223372036854775808 ≤ ls[j] ∧ ls[j] < 9223372036854775808) : iv (bs ++ ens ls) (ps bs ls j) = ls[j] ∧ ia (bs ++ ens ls) (ps bs ls j) = ps bs ls (j + 1) := by
  rw [ps_next bs ls j h, ens_split ls j h, ← List.append_assoc, ← List.append_assoc]
  exact iv_put (bs ++ ens (ls.take j)) (ens (ls.drop (j + 1))) ls[j] hr.1 hr.2
theorem bt_head (bs c : List Nat) (i : Nat) (h : i < bs.length) : bt (bs ++ c) i = bs[i] ∧ nx (bs ++ c) i = i + 1 := by
  have hl : i < (bs ++ c).length := by simp; omega
  rw [bt_in hl, nx_in hl, List.getElem_append_left h]
  exact ⟨rfl, rfl⟩
/-- two rows joined: one's own, and what another call made. -/
theorem join_rows {base : Nat} {w V B : World} {v : Value} {ys zs : List Nat} {u : Option Addr} {k c : Nat} (h : Made base w v ys V) (hk : k = zs.length) (h2 : Cl V (.slice u k c) zs B) (hl : ys.length + zs.length ≤ 100000000000000) (ty : TypeId) :
    ∃ v' w', (Builtin.append_ #[22, 22] ty #[v, .slice u k c]).run Try.prog B = .ok v' w' ∧ ((∃ a c, v' = .slice a (ys ++ zs).length c) ∧ Hid (Made base w v' (ys ++ zs) w')) := by
  subst hk
  obtain ⟨q, c', e, h3, h4, h5, h6⟩ := own_la h2.1
  injection e with e1 _ e2
  subst e1 e2
  have hlt := World.ownsRow.lt h.1
  have hk : Keep (fun _ => True) V B := Keep.of_below h2.2
  obtain ⟨v', w', hr, m1, m2⟩ := app_b (hk.own h.1 fun _ _ => trivial) h4 h5 hl (Nat.le_trans h.size hk.size) ty
  refine ⟨v', w', hr, ?_, ?_, h.2.1.trans ((hk.mono fun _ _ _ => trivial).trans (Keep.grown m2 fun j hj h' => ?_)), h.2.2⟩
  · rw [List.length_append]
    exact own_slice m1
  · rw [List.length_append]
    exact m1
  · have := (hlt j hj).1
    omega
/-- bytes copied to a new row. -/
theorem copy_row {w : World} {a : Option Addr} {cap : Nat} {bs : List Nat} (hr : La e8 w a bs) (hn : a = none → bs = [] ∧ cap = 0) (hl : bs.length ≤ 1000) (ty : TypeId) :
    ∃ v' w', (Builtin.append_ #[22, 22] ty #[.slice (some ⟨w.heap.size, 0, none⟩) 0 0, .slice a bs.length cap]).run Try.prog (w.alloc (.cells #[] 5)) = .ok v' w' ∧ ((∃ a c, v' = .slice a bs.length c) ∧ Hid (Made w.heap.size w v' bs w')) := by
  obtain ⟨v', w', hr, ho, hg⟩ := app_b (empty_own w 5 e8) (hr.below ((Below.refl _ _).alloc (Nat.le_refl _) (.cells #[] 5))) hn (by omega) (by simp) ty
  rw [Nat.zero_add, List.nil_append] at ho
  exact ⟨v', w', hr, own_slice ho, ho, (Keep.alloc _ _ _).trans (Keep.grown hg fun k hk => by simp [Value.ownBlock] at hk; omega), Nat.le_refl _⟩
/-- both rows as strings. -/
theorem two_str {w w1 w4 : World} {v : Option Addr} {k c : Nat} {x : Value} {all : List Nat} (h : Cl w (.slice v k c) all w1) (hk : k = all.length) (h4 : Made w1.heap.size w1 x all w4) :
    (convert 22 9 (.slice v k c)).run Try.prog w4 = .ok (.string (str all)) w4 ∧ (convert 22 9 x).run Try.prog w4 = .ok (.string (str all)) w4 ∧ La e8 w4 v all ∧ (v = none → all = [] ∧ c = 0) ∧ Below w.heap.size w w4 := by
  subst hk
  obtain ⟨q, c', e, h3, h4', h5, h6⟩ := own_la h.1
  injection e with e1 _ e2
  subst e1 e2
  obtain ⟨q2, c2, rfl, k3, k4, k5, k6⟩ := own_la h4.1
  have hb : Below w1.heap.size w1 w4 := h4.2.1.below (fun _ h => h) (Nat.le_refl _)
  have hl := h4'.below hb
  exact ⟨string_of c hl, string_of c2 k4, hl, h5, h.2.trans (hb.mono h.2.size)⟩
set_option maxRecDepth 100000 in
set_option maxHeartbeats 2000000 in
theorem back_some (p : Option Addr) (cap : Nat) (bs : List Nat) (r : Option Addr) (cap' : Nat) (ls : List Int) (w : World) (hn : p = none → bs = [] ∧ cap = 0) (hl : bs.length ≤ 100) (hs : Bs bs) (hr : La e8 w p bs) (hb : La eI w r ls) (hbl : ls.length ≤ 60) (hbr : ∀ x ∈ ls, -9223372036854775808 ≤ x ∧ x < 9223372036854775808) :
    Calls Try.prog 4 #[.slice p bs.length cap, .slice r ls.length cap'] w fun e B => e = .returned (.bool true) ∧ Below w.heap.size w B := by
  have hel := ens_len ls
  have hal : (bs ++ ens ls).length ≤ 1000 := by rw [List.length_append]; omega
  have T16 := Lib.hid (put16 p cap bs r cap' ls w hn (by omega) hr (by omega) hb hbr)
  have A1 : Hid (∀ v k c w1, Hid (Cl w (.slice v k c) (bs ++ ens ls) w1) → ∀ ty, ∃ v' w', (Builtin.append_ #[22, 22] ty #[.slice (some ⟨w1.heap.size, 0, none⟩) 0 0, .slice p bs.length cap]).run Try.prog (w1.alloc (.cells #[] 5)) = .ok v' w' ∧ ((∃ a c, v' = .slice a bs.length c) ∧ Hid (Made w1.heap.size w1 v' bs w'))) := fun v k c w1 h ty =>
    copy_row (hr.below h.out.2) hn (by omega) ty
  have T17 : Hid (∀ v k c w1 u w2, Hid (Cl w (.slice v k c) (bs ++ ens ls) w1) → Hid (Made w1.heap.size w1 u bs w2) → Calls Try.prog 17 #[.slice r ls.length cap'] w2 fun e B => ∃ v k c, e = .returned (.slice v k c) ∧ Hid (k = (ens ls).length ∧ Cl w2 (.slice v k c) (ens ls) B)) := fun v k c w1 u w2 h h2 =>
    (refput17 r cap' ls w2 (by omega) (hb.below (h.out.2.trans ((h2.out.2.1.below (fun _ h => h) (Nat.le_refl _)).mono h.out.2.size))) hbr).mono fun e B ⟨v, k, c, he, hk, hc⟩ => ⟨v, k, c, he, hk, hc.out⟩
  have A2 : Hid (∀ w1 u w2 v k c w3, Hid (Made w1.heap.size w1 u bs w2) → Hid (k = (ens ls).length ∧ Cl w2 (.slice v k c) (ens ls) w3) → ∀ ty, ∃ v' w', (Builtin.append_ #[22, 22] ty #[u, .slice v k c]).run Try.prog w3 = .ok v' w' ∧ ((∃ a c, v' = .slice a (bs ++ ens ls).length c) ∧ Hid (Made w1.heap.size w1 v' (bs ++ ens ls) w'))) := fun w1 u w2 v k c w3 h h2 ty =>
    join_rows h.out h2.out.1 h2.out.2 (by rw [List.length_append] at hal; omega) ty
  have S5 : Hid (∀ v k c w1 x w4, Hid (Cl w (.slice v k c) (bs ++ ens ls) w1) → k = (bs ++ ens ls).length → Hid (Made w1.heap.size w1 x (bs ++ ens ls) w4) → (convert 22 9 (.slice v k c)).run Try.prog w4 = .ok (.string (str (bs ++ ens ls))) w4 ∧ (convert 22 9 x).run Try.prog w4 = .ok (.string (str (bs ++ ens ls))) w4 ∧
      Hid (Calls Try.prog 6 #[.slice v k c] w4 fun e B => ∃ D c q, e = .returned (.pointer (some ⟨D, 0, none⟩)) ∧ Hid (Bk w D c q (bs ++ ens ls) 0 B))) := fun v k c w1 x w4 h hk h4 => by
    obtain ⟨s1, s2, s3, s4, s5⟩ := two_str h.out hk h4.out
    refine ⟨s1, s2, ?_⟩
    rw [hk]
    exact (new6 v (bs ++ ens ls) c w4 s4 (by omega) (bs_app hs (ens_bs ls)) s3).mono fun e B ⟨D, c, q, he, hN⟩ => ⟨D, c, q, he, s5.trans (hN.out.2.2.2.mono s5.size), hN.out.1, Nat.le_trans s5.size hN.out.2.1⟩
  have L1 : Hid (∀ i, i < bs.length → ∃ (b o y : Nat), p = some ⟨b, o, none⟩ ∧ y < 256 ∧ bt (bs ++ ens ls) i = y ∧ nx (bs ++ ens ls) i = i + 1 ∧ Hid (∀ V, Below w.heap.size w V → V.cell? ⟨b, o + i, none⟩ = some (.int .u8 (y : Int)))) := fun i hi => by
    obtain ⟨b, o, hp, hc⟩ := now hr i hi
    have := bt_head bs (ens ls) i hi
    exact ⟨b, o, bs[i], hp, hs _ (List.getElem_mem hi), this.1, this.2, hc⟩
  have L2 : Hid (∀ j, j < ls.length → ∃ (b o : Nat) (x : Int), r = some ⟨b, o, none⟩ ∧ iv (bs ++ ens ls) (ps bs ls j) = x ∧ ia (bs ++ ens ls) (ps bs ls j) = ps bs ls (j + 1) ∧ ps bs ls j < ps bs ls (j + 1) ∧ ps bs ls (j + 1) ≤ 1000 ∧ Hid (∀ V, Below w.heap.size w V → V.cell? ⟨b, o + j, none⟩ = some (.int .i64 x))) := fun j hj => by
    obtain ⟨b, o, hp, hc⟩ := now hb j hj
    have hrd := ps_read bs ls j hj (hbr _ (List.getElem_mem hj))
    refine ⟨b, o, ls[j], hp, hrd.1, hrd.2, ?_, ?_, hc⟩
    · rw [ps_next bs ls j hj]
      have := (en_len ls[j]).1
      omega
    · unfold ps
      have := ens_len (ls.take (j + 1))
      rw [List.length_take] at this
      rw [List.length_append]
      omega
  have P0 : Hid (ps bs ls 0 = bs.length) := ps_zero bs ls
  have PE : Hid (ps bs ls ls.length = (bs ++ ens ls).length) := ps_end bs ls
  obtain ⟨all, hall⟩ : ∃ all, bs ++ ens ls = all := ⟨_, rfl⟩
  rw [hall] at T16 A1 T17 A2 S5 L1 L2 PE hal
  clear hr hb hbr hs hn hel hall
  obtain ⟨es, hes⟩ : ∃ es, ens ls = es := ⟨_, rfl⟩
  rw [hes] at T17 A2
  clear hes
  generalize hst : str all = st at *
  clear hst
  obtain ⟨g, hg⟩ : ∃ g, ps bs ls = g := ⟨_, rfl⟩
  rw [hg] at L2 P0 PE
  clear hg
  obtain ⟨len, hlen⟩ : ∃ len, ls.length = len := ⟨_, rfl⟩
  rw [hlen] at T16 T17 L2 PE hbl ⊢
  clear hlen
  obtain ⟨n, hnn⟩ : ∃ n, bs.length = n := ⟨_, rfl⟩
  rw [hnn] at T16 A1 L1 P0 hl ⊢
  clear hnn
  have d100 : decide (100 < (n : Int)) = false := decide_eq_false (by omega)
  have d60 : decide (60 < (len : Int)) = false := decide_eq_false (by omega)
  go_enter Try.func4, Try.ntmps4
  go_wp2_with fail
  refine T16.out.mono ?_
  rintro e w1 ⟨v, k, c, rfl, hk, K1⟩
  have HK := Lib.hid hk
  have A1' : Hid (∀ ty, ∃ v' w', (Builtin.append_ #[22, 22] ty #[.slice (some ⟨w1.heap.size, 0, none⟩) 0 0, .slice p n cap]).run Try.prog (w1.alloc (.cells #[] 5)) = .ok v' w' ∧ ((∃ a c, v' = .slice a n c) ∧ Hid (Made w1.heap.size w1 v' bs w'))) := A1.out _ _ _ _ K1
  clear T16 hk A1 d100 d60
  go_wp2_with (at_builtin; refine app_step _ rfl _ _ 22 rfl _ _ rfl rfl (A1'.out _) ?_; rintro v2 w2 ⟨⟨a2, c2, rfl⟩, q2⟩)
  refine (T17.out _ _ _ _ _ _ K1 q2).mono ?_
  rintro e w3 ⟨v3, k3, c3, rfl, q3⟩
  have A2' := Lib.hid (A2.out _ _ _ _ _ _ _ q2 q3)
  clear T17 A2 q2 q3 A1'
  go_wp2_with (at_builtin; refine app_step _ rfl _ _ 22 rfl _ _ rfl rfl (A2'.out _) ?_; rintro v4 w4 ⟨⟨a4, c4, rfl⟩, q4⟩; obtain ⟨s1, s2, T6⟩ := S5.out _ _ _ _ _ _ K1 HK.out q4)
  clear S5 K1 HK q4 A2'
  refine T6.out.mono ?_
  rintro e w5 ⟨D, cD, q, rfl, H0⟩
  clear T6 s1 s2
  go_wp2_with fail
  go_loopw [8] (fun i wr => ∃ j : Nat, j ≤ n ∧ i = .int .i64 j ∧ Hid (Bk w D cD q all j wr)) (fun i _ => n - (intOf i).toNat)
  case atStart => exact ⟨0, by omega, rfl, H0⟩
  case round =>
    obtain ⟨i, hi, rfl, hI⟩ := hrel
    clear H0
    obtain ⟨w7, rfl⟩ : ∃ w7, w7 = wr := ⟨_, rfl⟩
    by_cases hlt : i < n
    · obtain ⟨b, o, y, rfl, hy, e1, e2, CY⟩ := L1.out i hlt
      have hI' := Lib.hid (hI.out.below (below_drewN w7 1))
      have d0 : Hid (w7.drew.cell? ⟨b, o + i, none⟩ = some (.int .u8 (y : Int))) := CY.out _ hI'.out.old
      have T9 : Hid (Calls Try.prog 9 #[.pointer (some ⟨D, 0, none⟩)] w7.drew fun e B => e = .returned (.int .i64 (y : Int)) ∧ B.cell? ⟨b, o + i, none⟩ = some (.int .u8 (y : Int)) ∧ Hid (Bk w D cD q all (i + 1) B)) :=
        hI'.out.b9.mono fun e B ⟨he, h⟩ => ⟨by rw [he, e1], CY.out _ h.out.old, by rw [e2] at h; exact h⟩
      have h1 : (0 : Int) ≤ (i : Int) := by omega
      have h2 : (i : Int) < (n : Int) := by omega
      have hw : IntKind.i64.wrap (y : Int) = (y : Int) := by rw [IntKind.wrap_i64]; omega
      clear L1 L2 P0 PE hI hI' CY e1 e2
      go_wp2_with fail
      go_region_held3 (fun V => V.cell? ⟨b, o + i, none⟩ = some (.int .u8 (y : Int))) (first | exact d0.out | assumption) (first
        | (go_at_call 9; refine T9.out.mono ?_; rintro e w6 ⟨rfl, k9, H9⟩))
      go_wp2
      go_roundw
      case rel => exact ⟨i + 1, by omega, by simp, H9⟩
      case measure => simp [intOf]; omega
    · obtain rfl : i = n := by omega
      rw [← P0.out] at hI
      clear L1 P0
      go_wp2_with fail
      go_loopw [9] (fun i wr => ∃ j : Nat, j ≤ len ∧ i = .int .i64 j ∧ Hid (Bk w D cD q all (g j) wr)) (fun i _ => len - (intOf i).toNat)
      case atStart => exact ⟨0, by omega, rfl, hI⟩
      case round =>
        obtain ⟨j, hj, rfl, hJ⟩ := hrel
        clear hI
        obtain ⟨w8, rfl⟩ : ∃ w8, w8 = wr := ⟨_, rfl⟩
        by_cases hlt2 : j < len
        · obtain ⟨b, o, x, rfl, e1, e2, hg1, hg2, CY⟩ := L2.out j hlt2
          have T13 := Lib.hid hJ.out.a13
          have D2 : Hid (∀ V, Hid (Bk w D cD q all (g j) V) → Hid (V.drew.cell? ⟨b, o + j, none⟩ = some (.int .i64 x)) ∧ Hid (Calls Try.prog 7 #[.pointer (some ⟨D, 0, none⟩)] V.drew fun e B => e = .returned (.int .i64 x) ∧ B.cell? ⟨b, o + j, none⟩ = some (.int .i64 x) ∧ Hid (Bk w D cD q all (g (j + 1)) B))) := fun V h => by
            have h' := h.out.below (below_drewN V 1)
            exact ⟨CY.out _ h'.old, h'.i7.mono fun e B ⟨he, h⟩ => ⟨by rw [he, e1], CY.out _ h.out.old, by rw [e2] at h; exact h⟩⟩
          have D3 : Hid (∀ V, Hid (Bk w D cD q all (g (j + 1)) V) → Calls Try.prog 13 #[.pointer (some ⟨D, 0, none⟩)] V fun e B => e = .returned (.int .i64 ((g (j + 1) : Nat) : Int)) ∧ B.cell? ⟨b, o + j, none⟩ = some (.int .i64 x) ∧ Hid (Bk w D cD q all (g (j + 1)) B)) := fun V h =>
            h.out.a13.mono fun e B ⟨he, h⟩ => ⟨he, CY.out _ h.out.old, h⟩
          have h1 : (0 : Int) ≤ (j : Int) := by omega
          have h2 : (j : Int) < (len : Int) := by omega
          have hd : ¬ ((g (j + 1) : Nat) : Int) ≤ ((g j : Nat) : Int) := by omega
          have hd' : decide (((g (j + 1) : Nat) : Int) ≤ ((g j : Nat) : Int)) = false := decide_eq_false hd
          have hx : ((x : Int) == (x : Int)) = true := by simp
          clear L2 PE hJ CY e1 e2 hg1
          generalize hz : g (j + 1) = z at *
          have HZ := Lib.hid hz
          clear hz
          generalize g j = y at *
          go_wp2_with fail
          refine T13.out.mono ?_
          rintro e w9 ⟨rfl, H9⟩
          obtain ⟨K0, T7⟩ := D2.out _ H9
          clear T13 D2 H9
          go_wp2_with fail
          go_region_held3 (fun V => V.cell? ⟨b, o + j, none⟩ = some (.int .i64 x)) (first | exact K0.out | assumption) (first
            | (go_at_call 13; refine (D3.out _ h7).mono ?_; rintro e w11 ⟨rfl, k8, h8⟩)
            | (go_at_call 7; refine T7.out.mono ?_; rintro e w10 ⟨rfl, k7, h7⟩))
          go_wp2
          go_roundw
          case rel => exact ⟨j + 1, by omega, by simp, by rw [HZ.out]; exact h8⟩
          case measure => simp [intOf]; omega
        · obtain rfl : j = len := by omega
          rw [PE.out] at hJ
          have X14 : Hid (Calls Try.prog 14 #[.pointer (some ⟨D, 0, none⟩)] w8 fun e B => e = .returned (.int .i64 0) ∧ Hid (Bk w D cD q all all.length B)) := hJ.out.l14.mono fun e B ⟨he, h⟩ => ⟨by rw [he, Nat.sub_self]; rfl, h⟩
          have X7 : Hid (∀ V, Hid (Bk w D cD q all all.length V) → Calls Try.prog 7 #[.pointer (some ⟨D, 0, none⟩)] V fun e B => e = .returned (.int .i64 0) ∧ Hid (Bk w D cD q all all.length B)) := fun V h => h.out.i7.mono fun e B ⟨he, h⟩ => ⟨by rw [he, iv_out (Nat.le_refl _)], by rw [ia_out (Nat.le_refl _)] at h; exact h⟩
          have X9 : Hid (∀ V, Hid (Bk w D cD q all all.length V) → Calls Try.prog 9 #[.pointer (some ⟨D, 0, none⟩)] V fun e B => e = .returned (.int .i64 0) ∧ Hid (Bk w D cD q all all.length B)) := fun V h => h.out.b9.mono fun e B ⟨he, h⟩ => ⟨by rw [he, bt_out (Nat.le_refl _)]; rfl, by rw [nx_out (Nat.le_refl _)] at h; exact h⟩
          have X5 : Hid (∀ V, Hid (Bk w D cD q all all.length V) → Calls Try.prog 5 #[] V fun e B => e = .returned (.bool true) ∧ Hid (Below w.heap.size w B)) := fun V h => h.out.k5.mono fun e B ⟨he, h⟩ => ⟨he, h.out.old⟩
          clear L2 PE hJ hal
          generalize all.length = m at *
          go_wp2_with fail
          refine X14.out.mono ?_
          rintro e w9 ⟨rfl, h1⟩
          go_wp2_with fail
          refine (X7.out _ h1).mono ?_
          rintro e w10 ⟨rfl, h2⟩
          go_wp2_with fail
          refine (X9.out _ h2).mono ?_
          rintro e w11 ⟨rfl, h3⟩
          go_wp2_with fail
          refine (X5.out _ h3).mono ?_
          rintro e w12 ⟨rfl, h4⟩
          clear X14 X7 X9 X5
          go_wp2
          go_ret
          exact ⟨rfl, h4.out⟩
theorem back_walk (p : Option Addr) (cap : Nat) (bs : List Nat) (r : Option Addr) (cap' : Nat) (ls : List Int) (w : World) (hn : p = none → bs = [] ∧ cap = 0) (hs : Bs bs) (hr : La e8 w p bs) (hb : La eI w r ls) (hbr : ∀ x ∈ ls, -9223372036854775808 ≤ x ∧ x < 9223372036854775808) :
    Calls Try.prog 4 #[.slice p bs.length cap, .slice r ls.length cap'] w fun e B => e = .returned (.bool true) ∧ Below w.heap.size w B := by
  have AW := Lib.hid (awake5 w)
  by_cases h1 : bs.length ≤ 100
  · by_cases h2 : ls.length ≤ 60
    · exact back_some p cap bs r cap' ls w hn h1 hs hr hb h2 hbr
    · have d1 : decide (100 < (bs.length : Int)) = false := decide_eq_false (by omega)
      have d2 : decide (60 < (ls.length : Int)) = true := decide_eq_true (by omega)
      clear hr hb hbr hs hn h1 h2
      generalize bs.length = n at *
      generalize ls.length = len at *
      go_enter Try.func4, Try.ntmps4
      go_wp2_with fail
      refine AW.out.mono ?_
      rintro e w1 ⟨rfl, hb⟩
      go_wp2
      go_ret
      exact ⟨rfl, hb.out⟩
  · have d1 : decide (100 < (bs.length : Int)) = true := decide_eq_true (by omega)
    clear hr hb hbr hs hn h1
    generalize bs.length = n at *
    generalize ls.length = len at *
    go_enter Try.func4, Try.ntmps4
    go_wp2_with fail
    refine AW.out.mono ?_
    rintro e w1 ⟨rfl, hb⟩
    go_wp2
    go_ret
    exact ⟨rfl, hb.out⟩
end Go.Proofs.Ytmjboaflbjnpcaa
