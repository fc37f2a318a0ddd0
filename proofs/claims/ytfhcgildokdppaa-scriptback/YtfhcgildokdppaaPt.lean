/-
  Put of package prog by its contract, for every slice of bytes and every slice of calls (at most 1000 bytes).
-/
import Derived.Test.YtfhcgildokdppaaRf
namespace Go.Proofs.Ytfhcgildokdppaa
open Go.RowKit Go.Shelf tp
theorem own_mono {w : World} {b b' : Nat} {e : TypeId} {size : Nat} {v : Value} {n : Nat} {xs : List Value} (h : w.ownsRow b' e size v n xs) (hb : b ≤ b') : w.ownsRow b e size v n xs :=
  ⟨h.1, h.2.imp id fun ⟨g, cap, cur, h1, h2, h3⟩ => ⟨g, cap, cur, h1, Nat.le_trans hb h2, h3⟩⟩
/-- two rows of ints joined: one's own, and what another call made. -/
theorem join_ints {base : Nat} {w V B : World} {v : Value} {ys zs : List Int} {u : Option Addr} {k c : Nat} (h : Mi base w v ys V) (hk : k = zs.length) (h2 : Mi V.heap.size V (.slice u k c) zs B) (hl : ys.length + zs.length ≤ 1000000000) (ty : TypeId) :
    ∃ v' w', (Builtin.append_ #[25, 25] ty #[v, .slice u k c]).run Try.prog B = .ok v' w' ∧ ((∃ a k c, v' = .slice a k c) ∧ Hid (Mi base w v' (ys ++ zs) w')) := by
  subst hk
  obtain ⟨q, c', e, h3, h4, h5, h6⟩ := own_la h2.1
  injection e with e1 _ e2
  subst e1 e2
  have hlt := World.ownsRow.lt h.1
  have hk : Keep (fun k => k < V.heap.size) V B := h2.2.1
  obtain ⟨v', w', hr, m1, m2⟩ := app_i (hk.own h.1 fun k hk' => (hlt k hk').2) h4 h5 (by omega) (Nat.le_trans h.size hk.size) ty
  refine ⟨v', w', hr, ?_, ?_, h.2.1.trans ((hk.mono fun k hk0 _ => hk0).trans (Keep.grown m2 fun j hj h' => ?_)), h.2.2⟩
  · obtain ⟨a, c, e⟩ := tp.own_slice m1
    exact ⟨a, _, c, e⟩
  · rw [List.length_append]
    exact m1
  · have := (hlt j hj).1
    omega
/-- the numbers put so far. -/
def yp (l : List Opn) (j : Nat) : List Int := (l.length : Int) :: (l.take j).flatMap one
theorem yp_next (l : List Opn) (j : Nat) (h : j < l.length) : yp l j ++ [l[j].k] ++ nums l[j] = yp l (j + 1) := by
  unfold yp
  rw [List.take_succ_eq_append_getElem h, List.flatMap_append]
  simp [one]
theorem flat_len5 (l : List Opn) : (l.flatMap one).length ≤ 5 * l.length := by
  induction l with
  | nil => simp
  | cons o r ih =>
    have h1 := nums_len o
    have h2 := pls_len o.k
    simp only [List.flatMap_cons, List.length_append, List.length_cons, one]
    omega
theorem yp_len (l : List Opn) (j : Nat) : (yp l j).length ≤ 1 + 5 * l.length := by
  have := flat_len5 (l.take j)
  rw [List.length_take] at this
  unfold yp
  simp only [List.length_cons]
  omega
theorem pus_ok {l : List Opn} (h : ∀ o ∈ l, o.ok) (hl : l.length ≤ 1000000) : ∀ x ∈ pus l, I64 x := by
  intro x hx
  unfold pus at hx
  rcases List.mem_cons.1 hx with rfl | hx
  · unfold I64
    omega
  · obtain ⟨o, ho, hx⟩ := List.mem_flatMap.1 hx
    unfold one at hx
    rcases List.mem_cons.1 hx with rfl | hx
    · exact (h o ho).1
    · exact nums_ok (h o ho) x hx
/-- what Put leaves behind. -/
def Pb (w : World) (v : Option Addr) (k c : Nat) (all : List Nat) (B : World) : Prop := k = all.length ∧ Cl w (.slice v k c) all B
set_option maxRecDepth 100000 in
set_option maxHeartbeats 4000000 in
theorem put20 (p : Option Addr) (cap : Nat) (bs : List Nat) (r : Option Addr) (cap' : Nat) (l : List Opn) (w : World) (hn : p = none → bs = [] ∧ cap = 0) (hb : bs.length ≤ 100000) (hr : La e8 w p bs) (hl : Ea w r l) (ho : ∀ o ∈ l, o.ok) (hf : fine l) :
    Calls Try.prog 46 #[.slice p bs.length cap, .slice r l.length cap'] w fun e B => ∃ v k c, e = .returned (.tuple #[.slice v k c, .bool true]) ∧ Hid (Pb w v k c (bs ++ ens (pus l)) B) := by
  have h24 := hf.1
  have T12 : Hid (Calls Try.prog 24 #[.slice r l.length cap'] w fun e B => e = .returned (.bool true) ∧ Hid (Below w.heap.size w B)) := by
    have := fine12 r l cap' w hl
    rw [decide_eq_true hf] at this
    exact this
  have S : Hid (∀ W, Hid (Below w.heap.size w W) → Hid (Mi w.heap.size w (.slice (some ⟨W.heap.size, 0, none⟩) 1 1) (yp l 0) (W.alloc (.cells #[.int .i64 (l.length : Int)] 3)))) := fun W h => by
    refine ⟨?_, ((Keep.of_below h.out).mono fun _ _ _ => trivial).mono (fun k hk _ => hk) |>.trans ((Keep.alloc _ _ _)), Nat.le_refl _⟩
    exact World.ownsRow_lit W #[.int .i64 (l.length : Int)] 1 h.out.size (by decide) rfl
  have N : Hid (∀ j v W, j < l.length → Hid (Mi w.heap.size w v (yp l j) W) → ∃ (b o : Nat) (x0 x1 x2 x3 x4 : Int), r = some ⟨b, o, none⟩ ∧ Cf b (o + j * 5) ⟨x0, x1, x2, x3, x4⟩ W ∧
      Hid (∀ ty, ∃ v' w', (Builtin.append_ #[25, 25] ty #[v, .slice (some ⟨W.heap.size + 1, 0, none⟩) 1 1]).run Try.prog ((W.alloc (.cells (ocs ⟨x0, x1, x2, x3, x4⟩) 53)).alloc (.cells #[.int .i64 x0] 3)) = .ok v' w' ∧ ((∃ a k c, v' = .slice a k c) ∧ C5 W.heap.size ⟨x0, x1, x2, x3, x4⟩ w' ∧
        Hid (Calls Try.prog 60 #[opv ⟨x0, x1, x2, x3, x4⟩] w' fun e B => ∃ q n c, e = .returned (.slice q n c) ∧ Hid (∀ ty, ∃ v2 w2, (Builtin.append_ #[25, 25] ty #[v', .slice q n c]).run Try.prog B = .ok v2 w2 ∧ ((∃ a k c, v2 = .slice a k c) ∧ Hid (Mi w.heap.size w v2 (yp l (j + 1)) w2))))))) := fun j v W hj h => by
    obtain ⟨b, o, hp', hc⟩ := nowE hl j hj
    have hbel : Below w.heap.size w W := h.out.2.1.below (fun _ hk => hk) (Nat.le_refl _)
    refine ⟨b, o, l[j].k, l[j].key, l[j].val, l[j].cost, l[j].ttl, hp', hc.out W hbel, fun ty => ?_⟩
    have hM : Mi w.heap.size w v (yp l j) (W.alloc (.cells (ocs l[j]) 53)) := h.out.keep (K := fun _ => True) (Keep.alloc _ _ _) (fun _ _ => trivial) (fun _ _ => trivial)
    obtain ⟨v', w', hrun, ⟨a, c, hv⟩, hM2, hk2⟩ := push_ints hM [l[j].k] 1 rfl #[.int .i64 l[j].k] rfl (by have := yp_len l j; omega) ty
    rw [World.size_alloc] at hrun
    refine ⟨v', w', hrun, ⟨a, _, c, hv⟩, ?_, ?_⟩
    · refine cells5 (o := l[j]) (hk2.out.heap (heap_next rfl _) fun e => ?_)
      have := (World.ownsRow.lt h.out.1 _ e).2
      omega
    · refine (numbers23 l[j] w').mono ?_
      rintro e B ⟨q, c, he, hN⟩
      refine ⟨q, _, c, he, fun ty => ?_⟩
      obtain ⟨v2, w2, hr2, hs2, hM3⟩ := join_ints hM2.out rfl hN.out (by have := yp_len l j; have := nums_len l[j]; have := pls_len l[j].k; simp; omega) ty
      refine ⟨v2, w2, hr2, hs2, ?_⟩
      rw [yp_next l j hj] at hM3
      exact hM3
  have FIN : Hid (∀ a k c W, Hid (Mi w.heap.size w (.slice a k c) (yp l l.length) W) → Calls Try.prog 45 #[.slice p bs.length cap, .slice a k c] W fun e B => ∃ v k c, e = .returned (.slice v k c) ∧ Hid (Pb w v k c (bs ++ ens (pus l)) B)) := fun a k c W h => by
    have hbel : Below w.heap.size w W := h.out.2.1.below (fun _ hk => hk) (Nat.le_refl _)
    have e : yp l l.length = pus l := by unfold yp pus; rw [List.take_length]
    have hM := h.out
    rw [e] at hM
    obtain ⟨q', c', e', h2, h3, h4, h5⟩ := own_la hM.1
    injection e' with e1 e2 e3
    subst e1 e2 e3
    have hlen : (pus l).length ≤ 90000 := by
      have := yp_len l l.length
      rw [e] at this
      omega
    refine (put16 p cap bs a c (pus l) W hn hb (hr.below hbel) hlen h3 (fun x hx => pus_ok ho (by omega) x hx)).mono ?_
    rintro e B ⟨v, k, c', he, hk, hC⟩
    exact ⟨v, k, c', he, hk, own_mono hC.out.1 hbel.size, hbel.trans (hC.out.2.mono hbel.size)⟩
  clear hl hr ho hf hn
  generalize bs ++ ens (pus l) = all at *
  generalize bs.length = m at *
  generalize hY : yp l = Y at *
  clear hY
  generalize l.length = n at *
  go_enter Try.func46, Try.ntmps46
  go_wp2_with fail
  refine T12.out.mono ?_
  rintro e w1 ⟨rfl, h1⟩
  have S1 := Lib.hid (S.out _ h1)
  clear T12 S h1
  go_wp2_with fail
  go_loopw [6, 17] (fun v i wr => ∃ j : Nat, j ≤ n ∧ i = .int .i64 j ∧ (∃ a k c, v = .slice a k c) ∧ Hid (Mi w.heap.size w v (Y j) wr)) (fun _ i _ => n - (intOf i).toNat)
  case atStart => exact ⟨0, by omega, rfl, ⟨_, _, _, rfl⟩, S1.out⟩
  case round =>
    obtain ⟨j, hj, rfl, ⟨a, k, c, rfl⟩, hM⟩ := hrel
    clear S1
    by_cases hlt : j < n
    · obtain ⟨b, o, x0, x1, x2, x3, x4, rfl, ⟨c0, c1, c2, c3, c4⟩, A⟩ := N.out j _ _ hlt hM
      have hjn : (j : Int) < (n : Int) := by omega
      clear N FIN hM
      simp only at c0 c1 c2 c3 c4
      go_wp2_with (first | (at_builtin; refine app_step _ rfl _ _ 25 rfl _ _ rfl rfl (A2.out _) ?_; rintro v5 w5 ⟨⟨a5, k5, c5, rfl⟩, q5⟩) | (at_builtin; refine app_step _ rfl _ _ 25 rfl _ _ rfl rfl (A.out _) ?_; rintro v3 w3 ⟨⟨a3, k3, c3', rfl⟩, ⟨e0, e1, e2, e3, e4⟩, T23⟩) | (go_at_call 60; refine T23.out.mono ?_; rintro e w4 ⟨q4, n4, c4', rfl, A2⟩))
      go_roundw
      case rel => exact ⟨j + 1, by omega, by simp, ⟨_, _, _, rfl⟩, q5⟩
      case measure => simp [intOf]; omega
    · obtain rfl : j = n := by omega
      have T := Lib.hid (FIN.out _ _ _ _ hM)
      clear N FIN hM
      go_wp2_with fail
      refine T.out.mono ?_
      rintro e w4 ⟨v, k2, c2, rfl, hP⟩
      go_wp2
      go_ret2
      exact ⟨_, _, _, rfl, hP⟩
theorem put20_not (p : Option Addr) (m cap : Nat) (r : Option Addr) (cap' : Nat) (l : List Opn) (w : World) (hl : Ea w r l) (hf : ¬ fine l) :
    Calls Try.prog 46 #[.slice p m cap, .slice r l.length cap'] w fun e B => e = .returned (.tuple #[.slice none 0 0, .bool false]) ∧ Hid (Below w.heap.size w B) := by
  have T12 : Hid (Calls Try.prog 24 #[.slice r l.length cap'] w fun e B => e = .returned (.bool false) ∧ Hid (Below w.heap.size w B)) := by
    have := fine12 r l cap' w hl
    rw [decide_eq_false hf] at this
    exact this
  clear hl hf
  generalize l.length = n at *
  go_enter Try.func46, Try.ntmps46
  go_wp2_with fail
  refine T12.out.mono ?_
  rintro e w1 ⟨rfl, h1⟩
  go_wp2
  go_ret2
  exact ⟨rfl, h1⟩
/-- what the document's Numbers leaves behind. -/
theorem lit_ints (w : World) (zs : List Int) (c : Array Value) (n : Nat) (hc : c = (zs.map eI).toArray) (hn : n = zs.length) (h63 : n ≤ 100) (V : World) (hV : Below w.heap.size w V) : Mi w.heap.size w (.slice (some ⟨V.heap.size, 0, none⟩) n n) zs (V.alloc (.cells c 3)) := by
  subst hc hn
  refine ⟨?_, ((Keep.of_below hV).mono fun _ _ _ => trivial).mono (fun k hk _ => hk) |>.trans ((Keep.alloc _ _ _)), Nat.le_refl _⟩
  have hm : maxLen = 9223372036854775807 := by decide
  have := World.ownsRow_lit (base := w.heap.size) (e := 3) (size := 1) V (zs.map eI).toArray zs.length hV.size (by omega) (by simp)
  simpa using this
set_option maxHeartbeats 2000000 in
theorem refnumbers35 (o : Opn) (w : World) : Calls Try.prog 61 #[opv o] w fun e B => ∃ q c, e = .returned (.slice q (nums o).length c) ∧ Hid (Mi w.heap.size w (.slice q (nums o).length c) (nums o) B) := by
  obtain ⟨N, hN⟩ : ∃ N, w.heap.size = N := ⟨_, rfl⟩
  obtain ⟨W1, hW1⟩ : ∃ W1, w.alloc (.cells (ocs o) 53) = W1 := ⟨_, rfl⟩
  have hb : Below w.heap.size w W1 := by rw [← hW1]; exact (Below.refl _ _).alloc (Nat.le_refl _) _
  have hO : W1.heap[N]? = some (.cells (ocs o) 53 (0, 0)) := by rw [← hW1, ← hN]; exact heap_next rfl _
  obtain ⟨d0, d1, d2, d3, d4⟩ := cells5 hO
  have L : Hid (∀ (zs : List Int) (c : Array Value) (n : Nat), c = (zs.map eI).toArray → n = zs.length → n ≤ 100 → Mi w.heap.size w (.slice (some ⟨W1.heap.size, 0, none⟩) n n) zs (W1.alloc (.cells c 3))) := fun zs c n hc hn h1 => lit_ints w zs c n hc hn h1 W1 hb
  have Z : Hid (Mi w.heap.size w (.slice none 0 0) [] W1) := ⟨World.ownsRow_nil _ _ _ _, (Keep.of_below hb).mono fun _ hk _ => hk, Nat.le_refl _⟩
  have HH := kinds o.k
  obtain ⟨k, a, b, c, d⟩ := o
  simp only at HH d0 d1 d2 d3 d4
  clear hO hb
  go_enter Try.func61, Try.ntmps61
  rcases HH with (rfl | rfl) | rfl | rfl | hr
  · go_wp2
    go_ret
    exact ⟨_, _, rfl, L.out [a] _ 1 rfl rfl (by decide)⟩
  · go_wp2
    go_ret
    exact ⟨_, _, rfl, L.out [a] _ 1 rfl rfl (by decide)⟩
  · go_wp2
    go_ret
    exact ⟨_, _, rfl, L.out [a, b, c, d] _ 4 rfl rfl (by decide)⟩
  · go_wp2
    go_ret
    exact ⟨_, _, rfl, L.out [c] _ 1 rfl rfl (by decide)⟩
  · have h1 : ¬ k = 1 := by omega
    have h2 : ¬ k = 2 := by omega
    have h3 : ¬ k = 3 := by omega
    have h7 : ¬ k = 7 := by omega
    have v1 : (k == 1) = false := by simpa using h1
    have v2 : (k == 2) = false := by simpa using h2
    have v3 : (k == 3) = false := by simpa using h3
    have v7 : (k == 7) = false := by simpa using h7
    have X : Hid (nums ⟨k, a, b, c, d⟩ = []) := by
      show nums _ = _
      unfold nums
      simp only
      rw [if_neg (by omega), if_neg h2, if_neg h7]
    clear hr L
    go_wp2
    go_ret
    rw [X.out]
    exact ⟨_, _, rfl, Z⟩
/-- a row of bytes of one's own stands behind what another call does. -/
theorem Made.beyond {base : Nat} {w V B : World} {v : Value} {ys : List Nat} (h : Made base w v ys V) (hk : Keep (fun k => k < V.heap.size) V B) : Made base w v ys B :=
  ⟨hk.own h.1 fun k hk' => (World.ownsRow.lt h.1 k hk').2, h.2.1.trans (hk.mono fun _ hk0 _ => hk0), h.2.2⟩
def yb (l : List Opn) (j : Nat) : List Nat := l.length :: eos (l.take j)
theorem yb_next (l : List Opn) (j : Nat) (h : j < l.length) (hr : right l[j]) : yb l j ++ [l[j].k.toNat] ++ ens (nums l[j]) = yb l (j + 1) := by
  have hk := right_kind hr
  unfold yb
  rw [List.take_succ_eq_append_getElem h, eos_app]
  have : eos [l[j]] = l[j].k.toNat :: ens (nums l[j]) := by
    unfold eos
    simp only [List.flatMap_cons, List.flatMap_nil, List.append_nil]
    unfold eo one
    rw [ens_cons, en_small (by omega)]
    rfl
  rw [this]
  simp
theorem eos_len (l : List Opn) : (eos l).length ≤ 45 * l.length := by
  induction l with
  | nil => simp [eos]
  | cons o r ih =>
    have h1 := nums_len o
    have h2 := pls_len o.k
    have h3 := ens_len (one o)
    have h4 : (one o).length = (nums o).length + 1 := rfl
    show (eo o ++ eos r).length ≤ _
    rw [List.length_append, List.length_cons]
    unfold eo
    omega
theorem yb_len (l : List Opn) (j : Nat) : (yb l j).length ≤ 1 + 45 * l.length := by
  have := eos_len (l.take j)
  rw [List.length_take] at this
  unfold yb
  simp only [List.length_cons]
  omega
set_option maxRecDepth 100000 in
set_option maxHeartbeats 4000000 in
theorem refput21 (r : Option Addr) (cap' : Nat) (l : List Opn) (w : World) (hl : Ea w r l) (ho : ∀ o ∈ l, o.ok) (hf : fine l) :
    Calls Try.prog 49 #[.slice r l.length cap'] w fun e B => ∃ v k c, e = .returned (.slice v k c) ∧ Hid (Pb w v k c (ens (pus l)) B) := by
  have h24 := hf.1
  have S : Hid (Made w.heap.size w (.slice (some ⟨w.heap.size, 0, none⟩) 1 1) (yb l 0) (w.alloc (.cells #[.int .u8 (l.length : Int)] 5))) := by
    refine ⟨?_, Keep.alloc _ _ _, Nat.le_refl _⟩
    exact World.ownsRow_lit w #[.int .u8 (l.length : Int)] 1 (Nat.le_refl _) (by decide) rfl
  have hw8 : IntKind.u8.wrap (l.length : Int) = (l.length : Int) := by rw [IntKind.wrap_u8']; omega
  have N : Hid (∀ j v W, j < l.length → Hid (Made w.heap.size w v (yb l j) W) → ∃ (b o : Nat) (x0 x1 x2 x3 x4 : Int) (y : Nat), r = some ⟨b, o, none⟩ ∧ Cf b (o + j * 5) ⟨x0, x1, x2, x3, x4⟩ W ∧ IntKind.u8.wrap x0 = (y : Int) ∧
      Hid (∀ ty, ∃ v' w', (Builtin.append_ #[35, 35] ty #[v, .slice (some ⟨W.heap.size, 0, none⟩) 1 1]).run Try.prog (W.alloc (.cells #[.int .u8 (y : Int)] 5)) = .ok v' w' ∧ ((∃ a k c, v' = .slice a k c) ∧ Cf b (o + j * 5) ⟨x0, x1, x2, x3, x4⟩ w' ∧
        Hid (Calls Try.prog 61 #[opv ⟨x0, x1, x2, x3, x4⟩] w' fun e B => ∃ q n c, e = .returned (.slice q n c) ∧ Hid (Calls Try.prog 48 #[.slice q n c] B fun e C => ∃ q2 n2 c2, e = .returned (.slice q2 n2 c2) ∧ Hid (∀ ty, ∃ v2 w2, (Builtin.append_ #[35, 35] ty #[v', .slice q2 n2 c2]).run Try.prog C = .ok v2 w2 ∧ ((∃ a k c, v2 = .slice a k c) ∧ Hid (Made w.heap.size w v2 (yb l (j + 1)) w2)))))))) := fun j v W hj h => by
    obtain ⟨b, o, hp', hc⟩ := nowE hl j hj
    have hbel : Below w.heap.size w W := h.out.2.1.below (fun _ hk => hk) (Nat.le_refl _)
    have hm := List.getElem_mem hj
    have hr := hf.2 _ hm
    have hk := right_kind hr
    refine ⟨b, o, l[j].k, l[j].key, l[j].val, l[j].cost, l[j].ttl, l[j].k.toNat, hp', hc.out W hbel, by rw [IntKind.wrap_u8']; omega, fun ty => ?_⟩
    obtain ⟨v', w', hrun, ⟨a, c, hv⟩, hM2⟩ := push_lit h.out [l[j].k.toNat] 1 rfl #[.int .u8 (l[j].k.toNat : Int)] rfl (by have := yb_len l j; omega) ty
    have hbel2 : Below w.heap.size w w' := hM2.out.2.1.below (fun _ hk => hk) (Nat.le_refl _)
    refine ⟨v', w', hrun, ⟨a, _, c, hv⟩, hc.out w' hbel2, ?_⟩
    refine (refnumbers35 l[j] w').mono ?_
    rintro e B ⟨q, c, he, hN⟩
    refine ⟨q, _, c, he, ?_⟩
    obtain ⟨q', c', e', h2, h3, h4, h5⟩ := own_la hN.out.1
    injection e' with e1 _ e3
    subst e1 e3
    have n4 : (nums l[j]).length ≤ 4 := by rw [nums_len]; exact pls_len _
    refine (refput17 q c (nums l[j]) B (by omega) h3 (fun x hx => nums_ok (ho _ hm) x hx)).mono ?_
    rintro e C ⟨q2, n2, c2, he, hn2, hC⟩
    refine ⟨q2, n2, c2, he, fun ty => ?_⟩
    have hM3 := Made.beyond hM2.out hN.out.2.1
    have e9 := ens_len (nums l[j])
    obtain ⟨v2, w2, hr2, ⟨a2, cc2, hs2⟩, hM4⟩ := join_rows hM3 hn2 hC.out (by have := yb_len l j; simp; omega) ty
    refine ⟨v2, w2, hr2, ⟨a2, _, cc2, hs2⟩, ?_⟩
    rw [yb_next l j hj hr] at hM4
    exact hM4
  have FIN : Hid (∀ a k c W, Hid (Made w.heap.size w (.slice a k c) (yb l l.length) W) → Hid (Pb w a k c (ens (pus l)) W)) := fun a k c W h => by
    have e : yb l l.length = ens (pus l) := by rw [ens_pus hf.1]; unfold yb; rw [List.take_length]
    have hM := h.out
    rw [e] at hM
    obtain ⟨_, _, e'⟩ := hM.sl
    injection e' with _ e' _
    subst e'
    exact ⟨rfl, hM.1, hM.2.1.below (fun _ hk => hk) (Nat.le_refl _)⟩
  clear hl ho hf
  generalize ens (pus l) = all at *
  generalize hY : yb l = Y at *
  clear hY
  generalize l.length = n at *
  go_enter Try.func49, Try.ntmps49
  go_wp2_with fail
  go_loopw [3, 4] (fun v i wr => ∃ j : Nat, j ≤ n ∧ i = .int .i64 j ∧ (∃ a k c, v = .slice a k c) ∧ Hid (Made w.heap.size w v (Y j) wr)) (fun _ i _ => n - (intOf i).toNat)
  case atStart => exact ⟨0, by omega, rfl, ⟨_, _, _, rfl⟩, S⟩
  case round =>
    obtain ⟨j, hj, rfl, ⟨a, k, c, rfl⟩, hM⟩ := hrel
    clear S
    by_cases hlt : j < n
    · obtain ⟨b, o, x0, x1, x2, x3, x4, y, rfl, ⟨c0, c1, c2, c3, c4⟩, hy, A⟩ := N.out j _ _ hlt hM
      have hjn : (j : Int) < (n : Int) := by omega
      have hj0 : (0 : Int) ≤ (j : Int) := by omega
      clear N FIN hM hw8
      simp only at c0 c1 c2 c3 c4
      go_wp2_with (first | (at_builtin; refine app_step _ rfl _ _ 35 rfl _ _ rfl rfl (A2.out _) ?_; rintro v5 w5 ⟨⟨a5, k5, c5, rfl⟩, q5⟩) | (at_builtin; refine app_step _ rfl _ _ 35 rfl _ _ rfl rfl (A.out _) ?_; rintro v3 w3 ⟨⟨a3, k3, c3', rfl⟩, ⟨e0, e1, e2, e3, e4⟩, T35⟩) | (go_at_call 61; refine T35.out.mono ?_; rintro e w4 ⟨q4, n4, c4', rfl, T34⟩) | (go_at_call 48; refine T34.out.mono ?_; rintro e w6 ⟨q6, n6, c6, rfl, A2⟩))
      go_roundw
      case rel => exact ⟨j + 1, by omega, by simp, ⟨_, _, _, rfl⟩, q5⟩
      case measure => simp [intOf]; omega
    · obtain rfl : j = n := by omega
      have F := Lib.hid (FIN.out _ _ _ _ hM)
      clear N FIN hM hw8
      go_wp2
      go_ret
      exact ⟨_, _, _, rfl, F.out⟩
end Go.Proofs.Ytfhcgildokdppaa
