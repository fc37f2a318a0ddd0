/-
  RankAlike walked: for every slice of ints and every uint it returns true; what was in memory stays.
-/
import Derived.Test.YtaoiadejafaleaaAlike
namespace Go.Proofs.Ytaoiadejafaleaa
open Go.RowKit Go.Shelf
/-- told of no tree: nothing. -/
theorem told_none {W0 : World} {P : World → Prop} (hP : ∀ B, Below W0.heap.size W0 B → P B) :
    Calls Try.prog 21 #[.func (.func 39) #[] #[.pointer (some ⟨W0.heap.size, 0, none⟩), .pointer (some ⟨W0.heap.size + 1, 0, none⟩)], .int .i64 1] ((W0.alloc (.cells #[.pointer none] 24)).alloc (.cells #[.int .i64 0] 3)) fun e B => ∃ a c, e = .returned (.slice a 0 c) ∧ Hid (P B) := by
  refine (told_fresh (W0 := W0) (p := none) (t := .nil) (f := 0) (n := 1) (.inl ⟨rfl, rfl⟩) (by omega) (by omega)).mono ?_
  rintro e B ⟨v, he, hv, hb⟩
  have e0 : ((Tr.nil.list.drop 0).take 1 : List (Int × Int)) = [] := rfl
  rw [e0] at hv
  obtain ⟨a, c, rfl, _⟩ := hv
  exact ⟨a, c, he, hP B hb⟩
theorem wrap_nat (m : Nat) (h : m < 9223372036854775808) : IntKind.i64.wrap (m : Int) = (m : Int) := by rw [IntKind.wrap_i64]; omega
theorem wrap_two (x : Int) : IntKind.i64.wrap x = wrap64 x := by rw [IntKind.wrap_i64]; first | rfl | (unfold wrap64; omega)
set_option maxRecDepth 100000 in
set_option maxHeartbeats 20000000 in
theorem alike_some (a : Option Addr) (cap : Nat) (ls : List Int) (turn : Nat) (w : World) (hl : ls.length ≤ 40) (hl0 : 0 < ls.length) (hr : Ia w a ls) :
    Calls Try.prog 5 #[.slice a ls.length cap, .int .u64 (turn : Int)] w fun e B => e = .returned (.bool true) ∧ Below w.heap.size w B := by
  obtain ⟨N, hN⟩ : ∃ N, w.heap.size = N := ⟨_, rfl⟩
  obtain ⟨f, hf⟩ : ∃ f : Nat → Int, ∀ i (h : i < ls.length), ls[i] = f i := ⟨fun i => ls.getD i 0, fun i h => by simp [h]⟩
  obtain ⟨b, o, rfl, hi⟩ := hr hl0
  have C : Hid (∀ (j : Nat), j < ls.length → ∀ W, Below N w W → W.cell? ⟨b, o + j, none⟩ = some (.int .i64 (f j))) := fun j h W hW => by
    have h0 := hi j h
    have hb := World.block_lt_of_cell? w _ h0
    rw [hN] at hb
    rw [← hf j h]
    exact (hW.cell (p := ⟨b, o + j, none⟩) hb).trans h0
  obtain ⟨n, hn⟩ : ∃ n, ls.length = n := ⟨_, rfl⟩
  rw [hn] at C hl hl0 ⊢
  have T0 : Hid (Calls Try.prog 7 #[ordV] w fun e w' => ∃ g, e = .returned (.pointer (some ⟨g, 0, none⟩)) ∧ Hid (At w' g .nil ∧ Below N w w' ∧ N ≤ w'.heap.size)) := (new_at w).mono fun e w' ⟨g, he, h⟩ => ⟨g, he, h.out.1, hN ▸ h.out.2, by have := h.out.2.size; omega⟩
  have T1 : Hid (∀ W g, Hid (At W g .nil ∧ Below N w W ∧ N ≤ W.heap.size) → Calls Try.prog 7 #[ordV] W fun e w' => ∃ g', e = .returned (.pointer (some ⟨g', 0, none⟩)) ∧ Hid (Al w N g g' .nil .nil (.slice none 0 0) w')) := fun W g h => (new_at W).mono fun e w' ⟨g', he, ho⟩ => ⟨g', he, h.out.1.below ho.out.2, ho.out.1, Es.nil _, h.out.2.1.trans (ho.out.2.mono h.out.2.2), Nat.le_trans h.out.2.2 ho.out.2.size⟩
  rw [hN]
  clear hr hi hf hN hn
  obtain ⟨kk, hk1, hk2, hkk⟩ : ∃ kk : Nat, (turn : Int) % (n : Int) = (kk : Int) ∧ wrap64 ((turn : Int) % (n : Int)) = (kk : Int) ∧ kk < n := by
    have h1 : ((turn % n : Nat) : Int) = (turn : Int) % (n : Int) := by simp
    have h2 : turn % n < n := Nat.mod_lt _ hl0
    refine ⟨turn % n, h1.symm, ?_, h2⟩
    rw [← h1]; unfold wrap64; omega
  have hn0 : ¬ n = 0 := by omega
  go_enter Try.func5, Try.ntmps5
  go_wp2_with fail
  refine T0.out.mono ?_
  rintro e w1 ⟨g0, rfl, h1⟩
  go_wp2_with fail
  refine (T1.out _ _ h1).mono ?_
  rintro e w2 ⟨g1, rfl, h2⟩
  clear T0 T1 h1
  go_wp2_with fail
  clear hk1 hk2
  go_loopw [5, 6, 7, 9] (fun pa pb x i wr => ∃ (j ga gb : Nat) (ta tb : Tr) (ax : Option Addr) (cx : Nat), j ≤ n ∧ i = .int .i64 j ∧ pa = .pointer (some ⟨ga, 0, none⟩) ∧ pb = .pointer (some ⟨gb, 0, none⟩) ∧ x = .slice ax ta.list.length cx ∧ Hid (Al w N ga gb ta tb (.slice ax ta.list.length cx) wr ∧ ta.list.length ≤ j ∧ tb.list.length ≤ j ∧ Keys ta.list f j ∧ Keys tb.list (fun m => f (pl n kk m)) j)) (fun _ _ _ i _ => n - (intOf i).toNat)
  case atStart => exact ⟨0, g0, g1, .nil, .nil, none, 0, Nat.zero_le _, rfl, rfl, rfl, rfl, Lib.hid ⟨h2.out, Nat.le_refl _, Nat.le_refl _, Keys.nil _, Keys.nil _⟩⟩
  case round =>
    clear h2
    obtain ⟨j, ga, gb, ta, tb, ax, cx, hj, rfl, rfl, rfl, rfl, hX⟩ := hrel
    by_cases hlt : j < n
    · obtain ⟨jj, hjj, hjn, hj1, hj2⟩ : ∃ jj : Nat, jj = (j + kk) % n ∧ jj < n ∧ ((j : Int) + (kk : Int)).tmod (n : Int) = (jj : Int) ∧ ((j : Int) + (kk : Int)) % (n : Int) = (jj : Int) := by
        refine ⟨(j + kk) % n, rfl, Nat.mod_lt _ hl0, ?_, by simp⟩
        rw [Int.tmod_eq_emod_of_nonneg (by omega)]; simp
      obtain ⟨q1, hq, hq1⟩ : ∃ q1 : Nat, q1 = n - 1 ∧ IntKind.i64.wrap ((n : Int) - 1) = (q1 : Int) := ⟨n - 1, rfl, by rw [show ((n : Int) - 1) = ((n - 1 : Nat) : Int) by omega]; exact wrap_nat _ (by omega)⟩
      obtain ⟨p, hp, hpn, hp1⟩ : ∃ p : Nat, p = pl n kk j ∧ p < n ∧ IntKind.i64.wrap ((q1 : Int) - (jj : Int)) = (p : Int) := ⟨pl n kk j, rfl, pl_lt hl0, by
        rw [show (q1 : Int) - (jj : Int) = ((pl n kk j : Nat) : Int) by unfold pl; omega]; exact wrap_nat _ (by have := pl_lt (k := kk) (m := j) hl0; omega)⟩
      have hf2 : f (pl n kk j) = f p := by rw [hp]
      have D : Hid (∀ W, Below N w W → W.cell? ⟨b, o + j, none⟩ = some (.int .i64 (f j)) ∧ W.cell? ⟨b, o + p, none⟩ = some (.int .i64 (f p))) := fun W hW => ⟨C.out j hlt W hW, C.out p hpn W hW⟩
      obtain ⟨X, hla, hlb, hka, hkb⟩ := hX.out
      obtain ⟨x1, hx1⟩ : ∃ x1, f j = x1 := ⟨_, rfl⟩
      obtain ⟨x2, hx2⟩ : ∃ x2, f p = x2 := ⟨_, rfl⟩
      rw [hx1, hx2] at D
      have K0 : Hid (wr.drew.cell? ⟨b, o + j, none⟩ = some (.int .i64 x1) ∧ wr.drew.cell? ⟨b, o + p, none⟩ = some (.int .i64 x2)) := D.out wr X.bel
      have B1 : Al w N ga gb ta tb (.slice ax ta.list.length cx) wr.drew := X.below ((Below.refl _ wr).drew)
      have P1 : Hid (Calls Try.prog 9 #[.pointer (some ⟨ga, 0, none⟩), .int .i64 x1, .int .i64 x1] wr.drew fun e w' => ∃ g', e = .returned (.pointer (some ⟨g', 0, none⟩)) ∧ (w'.cell? ⟨b, o + j, none⟩ = some (.int .i64 x1) ∧ w'.cell? ⟨b, o + p, none⟩ = some (.int .i64 x2)) ∧ Hid (∃ ta', ta'.list = ins x1 x1 ta.list ∧ At w' g' ta' ∧ Al w N ga gb ta tb (.slice ax ta.list.length cx) w')) :=
        (tput_some B1.one (by omega) x1 x1).mono fun e w' ⟨g', t', he, ho⟩ => by
          have h2 := B1.below ho.out.2.2
          exact ⟨g', he, D.out _ h2.bel, t', ho.out.2.1, ho.out.1, h2⟩
      have P2 : Hid (∀ W ga', Hid (∃ ta', ta'.list = ins x1 x1 ta.list ∧ At W ga' ta' ∧ Al w N ga gb ta tb (.slice ax ta.list.length cx) W) → Calls Try.prog 9 #[.pointer (some ⟨gb, 0, none⟩), .int .i64 x2, .int .i64 x2] W fun e w' => ∃ g', e = .returned (.pointer (some ⟨g', 0, none⟩)) ∧ (w'.cell? ⟨b, o + j, none⟩ = some (.int .i64 x1) ∧ w'.cell? ⟨b, o + p, none⟩ = some (.int .i64 x2)) ∧ Hid (∃ ta' tb', ta'.list = ins x1 x1 ta.list ∧ tb'.list = ins x2 x2 tb.list ∧ At w' ga' ta' ∧ At w' g' tb' ∧ Al w N ga gb ta tb (.slice ax ta.list.length cx) w')) := fun W ga' hh => by
        obtain ⟨ta', h1, h2, h3⟩ := hh.out
        refine (tput_some h3.two (by omega) x2 x2).mono fun e w' ⟨g', t', he, ho⟩ => ?_
        have h4 := h3.below ho.out.2.2
        exact ⟨g', he, D.out _ h4.bel, ta', t', h1, ho.out.2.1, h2.below ho.out.2.2, ho.out.1, h4⟩
      have P3 : Hid (∀ W ga' gb', Hid (∃ ta' tb', ta'.list = ins x1 x1 ta.list ∧ tb'.list = ins x2 x2 tb.list ∧ At W ga' ta' ∧ At W gb' tb' ∧ Al w N ga gb ta tb (.slice ax ta.list.length cx) W) → W.drew.cell? ⟨b, o + j, none⟩ = some (.int .i64 x1) ∧ Calls Try.prog 10 #[.slice ax ta.list.length cx, .int .i64 x1, .int .i64 x1] W.drew fun e w' => ∃ a2 n2 c2, e = .returned (.slice a2 n2 c2) ∧ w'.cell? ⟨b, o + j, none⟩ = some (.int .i64 x1) ∧ Hid (∃ ta' tb', ta'.list.length = n2 ∧ Al w N ga' gb' ta' tb' (.slice a2 n2 c2) w' ∧ n2 ≤ j + 1 ∧ tb'.list.length ≤ j + 1 ∧ Keys ta'.list f (j + 1) ∧ Keys tb'.list (fun m => f (pl n kk m)) (j + 1))) := fun W ga' gb' hh => by
        obtain ⟨ta', tb', h1, h2, h3, h4, h5⟩ := hh.out
        have hd : Below W.heap.size W W.drew := (Below.refl _ W).drew
        have h6 := h5.below hd
        refine ⟨(D.out _ h6.bel).1, (rput_any h6.row h6.one.up (by omega) x1 x1).mono fun e w' ⟨v', he, ho⟩ => ?_⟩
        obtain ⟨ho1, ho2⟩ := ho.out
        have h7 := h6.below ho2
        rw [← h1] at ho1
        obtain ⟨a2, c2, hv, hr⟩ := ho1
        subst hv
        have e1 := ins_len (k := x1) (xs := ta.list) x1
        have e2 := ins_len (k := x2) (xs := tb.list) x2
        refine ⟨a2, _, c2, he, (D.out _ h7.bel).1, ta', tb', rfl, ⟨(h3.below hd).below ho2, (h4.below hd).below ho2, ⟨a2, c2, rfl, hr⟩, h7.bel, h7.size⟩, ?_, ?_, ?_, ?_⟩
        · rw [h1]; omega
        · rw [h2]; omega
        · rw [h1]; exact hka.ins hx1
        · rw [h2]; exact hkb.ins (hf2.trans hx2)
      have HJ := Lib.hid hjj
      have HP := Lib.hid (And.intro hp hq)
      clear C D hX X hla hlb hka hkb B1 hx1 hx2 hf2 hjj hp hq
      generalize ta.list.length = na at *
      have v1 : IntKind.i64.wrap 1 = 1 := by decide
      go_wp2_with fail
      go_region_held3 (fun W => W.cell? ⟨b, o + j, none⟩ = some (.int .i64 x1) ∧ W.cell? ⟨b, o + p, none⟩ = some (.int .i64 x2)) (first | exact K0.out | assumption) (first
        | (go_at_call 9; refine (P2.out _ _ ho1).mono ?_; rintro e W3 ⟨gb', rfl, hk3, ho2⟩)
        | (go_at_call 9; refine P1.out.mono ?_; rintro e W2 ⟨ga', rfl, hk2, ho1⟩))
      have K1 := Lib.hid (P3.out _ _ _ ho2).1
      have P4 := Lib.hid (P3.out _ _ _ ho2).2
      clear P1 P2 P3 K0 hk2 hk3 ho1 ho2
      go_wp2_with fail
      go_region_held3 (fun W => W.cell? ⟨b, o + j, none⟩ = some (.int .i64 x1)) (first | exact K1.out | assumption) (first
        | (go_at_call 10; refine P4.out.mono ?_; rintro e W4 ⟨a2, n2, c2, rfl, hk4, hz⟩))
      clear P4 K1 hk4
      go_wp2
      go_roundw
      case rel =>
        obtain ⟨ta', tb', q1, q2, q3, q4, q5, q6⟩ := hz.out
        subst q1
        exact ⟨j + 1, _, _, ta', tb', _, _, by omega, by simp, rfl, rfl, rfl, Lib.hid ⟨q2, q3, q4, q5, q6⟩⟩
      case measure => simp [intOf]; omega
    · obtain rfl : j = n := by omega
      obtain ⟨w5, rfl⟩ : ∃ w5, w5 = wr := ⟨_, rfl⟩
      have hna : ta.list.length ≤ 40 := by have := hX.out.2.1; omega
      have hes : tb.list = ta.list := keys_same hX.out.1.one.up hX.out.1.two.up hX.out.2.2.2.1 hX.out.2.2.2.2 (.inl hkk)
      have X0 : Hid (Al w N ga gb ta tb (.slice ax ta.list.length cx) w5 ∧ tb.list = ta.list) := ⟨hX.out.1, hes⟩
      clear hX hes
      go_wp2_with fail
      go_loopw [6, 11] (fun pb i W => ∃ (m gb : Nat) (tb : Tr), m ≤ j ∧ i = .int .i64 m ∧ pb = .pointer (some ⟨gb, 0, none⟩) ∧ Hid (Al w N ga gb ta tb (.slice ax ta.list.length cx) W ∧ tb.list = ta.list)) (fun _ i _ => j - (intOf i).toNat)
      case atStart => exact ⟨0, gb, tb, Nat.zero_le _, rfl, rfl, X0⟩
      case round =>
        clear X0
        obtain ⟨m, gb, tb, hm, rfl, rfl, hX⟩ := hrel
        by_cases hlt : m < j
        · obtain ⟨X, hes⟩ := hX.out
          obtain ⟨x, hx⟩ : ∃ x, f m = x := ⟨_, rfl⟩
          have D : Hid (∀ W, Below N w W → W.cell? ⟨b, o + m, none⟩ = some (.int .i64 x)) := fun W hW => hx ▸ C.out m hlt W hW
          obtain ⟨y, hy1, hy2⟩ : ∃ y, wrap64 (x - 1) = y ∧ IntKind.i64.wrap (x - 1) = y := ⟨_, rfl, wrap_two _⟩
          have c0 := D.out _ X.bel
          obtain ⟨z0, hz0⟩ : ∃ z0, (look y ta.list).getD 0 = z0 := ⟨_, rfl⟩
          obtain ⟨z, hz⟩ : ∃ z, (look y ta.list).isSome = z := ⟨_, rfl⟩
          have G : Hid (Calls Try.prog 14 #[.slice ax ta.list.length cx, .int .i64 y] wr fun e B => e = .returned (.tuple #[.int .i64 z0, .bool z]) ∧ B = wr) := by
            have := rget_any X.row (by omega) y
            rw [hz0, hz] at this
            exact this
          cases z with
          | true =>
            have H := Lib.hid hX
            clear C D hX X hes hx hz0 hz
            generalize ta.list.length = na at *
            go_wp2_with fail
            refine G.out.mono ?_
            rintro e w1 ⟨rfl, e1⟩
            obtain rfl : wr = w1 := e1.symm
            go_wp2
            go_roundw
            case rel => exact ⟨m + 1, gb, tb, by omega, by simp, rfl, H.out⟩
            case measure => simp [intOf]; omega
          | false =>
            have hln : look y ta.list = none := by cases h : look y ta.list with
              | none => rfl
              | some v => rw [h] at hz; cases hz
            have K0 : Hid (wr.drew.cell? ⟨b, o + m, none⟩ = some (.int .i64 x)) := c0
            have B1 : Al w N ga gb ta tb (.slice ax ta.list.length cx) wr.drew := X.below ((Below.refl _ wr).drew)
            have P1 : Hid (Calls Try.prog 9 #[.pointer (some ⟨gb, 0, none⟩), .int .i64 y, .int .i64 0] wr.drew fun e w' => ∃ g', e = .returned (.pointer (some ⟨g', 0, none⟩)) ∧ w'.cell? ⟨b, o + m, none⟩ = some (.int .i64 x) ∧ Hid (∃ tb', tb'.list = ins y 0 ta.list ∧ Al w N ga g' ta tb' (.slice ax ta.list.length cx) w')) :=
              (tput_some B1.two (by rw [hes]; omega) y 0).mono fun e w' ⟨g', t', he, ho⟩ => by
                have h2 := B1.below ho.out.2.2
                exact ⟨g', he, D.out _ h2.bel, t', by rw [ho.out.2.1, hes], h2.one, ho.out.1, h2.row, h2.bel, h2.size⟩
            have P2 : Hid (∀ W g, Hid (∃ tb', tb'.list = ins y 0 ta.list ∧ Al w N ga g ta tb' (.slice ax ta.list.length cx) W) → Calls Try.prog 11 #[.pointer (some ⟨g, 0, none⟩), .int .i64 y] W fun e w' => ∃ g', e = .returned (.pointer (some ⟨g', 0, none⟩)) ∧ w'.cell? ⟨b, o + m, none⟩ = some (.int .i64 x) ∧ Hid (∃ tb', Al w N ga g' ta tb' (.slice ax ta.list.length cx) w' ∧ tb'.list = ta.list)) := fun W g hh => by
              obtain ⟨tb', h1, h2⟩ := hh.out
              refine (tdrop_some h2.two y).mono fun e w' ⟨g', t', he, ho⟩ => ?_
              have h3 := h2.below ho.out.2.2
              exact ⟨g', he, D.out _ h3.bel, t', ⟨h3.one, ho.out.1, h3.row, h3.bel, h3.size⟩, by rw [ho.out.2.1, h1, put_drop X.one.up hln]⟩
            clear C D hX X hes hx hz0 hz hln B1
            generalize ta.list.length = na at *
            have v1 : IntKind.i64.wrap 1 = 1 := by decide
            go_wp2_with fail
            refine G.out.mono ?_
            rintro e w1 ⟨rfl, e1⟩
            obtain rfl : wr = w1 := e1.symm
            go_wp2_with fail
            clear c0
            go_region_held3 (fun W => W.cell? ⟨b, o + m, none⟩ = some (.int .i64 x)) (first | exact K0.out | assumption) (first
              | (go_at_call 9; refine P1.out.mono ?_; rintro e W2 ⟨g2, rfl, hk2, ho1⟩)
              | (go_at_call 11; refine (P2.out _ _ ho1).mono ?_; rintro e W3 ⟨g3, rfl, hk3, ho2⟩))
            clear P1 P2 K0 hk2 hk3 ho1
            go_wp2
            go_roundw
            case rel =>
              obtain ⟨tb', q1, q2⟩ := ho2.out
              exact ⟨m + 1, g3, tb', by omega, by simp, rfl, Lib.hid ⟨q1, q2⟩⟩
            case measure => simp [intOf]; omega
        · obtain rfl : m = j := by omega
          clear C
          obtain ⟨S, HS⟩ : ∃ S : World → Prop, ∀ W, S W ↔ (Al w N ga gb ta tb (.slice ax ta.list.length cx) W ∧ tb.list = ta.list) := ⟨_, fun _ => Iff.rfl⟩
          have s0 : Hid (S wr) := (HS _).2 hX.out
          have SB : ∀ W B, S W → Below W.heap.size W B → S B := fun W B h hb => (HS _).2 ⟨((HS _).1 h).1.below hb, ((HS _).1 h).2⟩
          have T17 : Hid (∀ W, Hid (S W) → Calls Try.prog 17 #[.pointer (some ⟨ga, 0, none⟩), .slice ax ta.list.length cx] W fun e B => e = .returned (.bool true) ∧ Hid (S B)) := fun W h => by
            obtain ⟨h1, h2⟩ := (HS _).1 h.out
            exact (stands_some h1.one h1.row).mono fun e B ⟨he, m, hm⟩ => ⟨he, SB W B h.out (hm ▸ below_drewN W m)⟩
          have T27 : Hid (∀ W, Hid (S W) → Calls Try.prog 17 #[.pointer (some ⟨gb, 0, none⟩), .slice ax ta.list.length cx] W fun e B => e = .returned (.bool true) ∧ Hid (S B)) := fun W h => by
            obtain ⟨h1, h2⟩ := (HS _).1 h.out
            exact (stands_some h1.two (h2 ▸ h1.row)).mono fun e B ⟨he, m, hm⟩ => ⟨he, SB W B h.out (hm ▸ below_drewN W m)⟩
          have T22 : Hid (∀ W, Hid (S W) → Calls Try.prog 22 #[.pointer none] W fun e B => ∃ X Y : Nat, e = .returned (.func (.func 39) #[] #[.pointer (some ⟨X, 0, none⟩), .pointer (some ⟨Y, 0, none⟩)]) ∧ Hid (Calls Try.prog 21 #[.func (.func 39) #[] #[.pointer (some ⟨X, 0, none⟩), .pointer (some ⟨Y, 0, none⟩)], .int .i64 1] B fun e B => ∃ a c, e = .returned (.slice a 0 c) ∧ Hid (S B))) := fun W h =>
            (all_any none W).mono fun e B ⟨he, hB⟩ => ⟨_, _, he, hB ▸ told_none fun B hb => SB W B h.out hb⟩
          have T23 : Hid (∀ W, Hid (S W) → Calls Try.prog 23 #[.pointer none, .int .i64 (kk : Int)] W fun e B => ∃ X Y : Nat, e = .returned (.func (.func 39) #[] #[.pointer (some ⟨X, 0, none⟩), .pointer (some ⟨Y, 0, none⟩)]) ∧ Hid (Calls Try.prog 21 #[.func (.func 39) #[] #[.pointer (some ⟨X, 0, none⟩), .pointer (some ⟨Y, 0, none⟩)], .int .i64 1] B fun e B => ∃ a c, e = .returned (.slice a 0 c) ∧ Hid (S B))) := fun W h =>
            (from_any ((rank_none W kk).mono fun e B ⟨he, hB⟩ => ⟨he, 0, hB⟩)).mono fun e B ⟨m, he, hB⟩ => by
              have h1 := SB W (W.drewN m) h.out (below_drewN W m)
              exact ⟨_, _, he, hB ▸ told_none (W0 := W.drewN m) fun B hb => SB (W.drewN m) B h1 hb⟩
          have T6 : Hid (∀ W, Hid (S W) → Calls Try.prog 6 #[] W fun e B => e = .returned (.bool true) ∧ Hid (Below N w B)) := fun W h =>
            (awake_any W).mono fun e B ⟨he, hb⟩ => ⟨he, ((HS _).1 h.out).1.bel.trans (hb.out.mono ((HS _).1 h.out).1.size)⟩
          clear HS SB hX
          generalize ta.list.length = na at *
          go_wp2_with fail
          refine (get_none _ _).mono ?_
          rintro e w1 ⟨rfl, rfl⟩
          go_wp2_with fail
          refine (at_none _ _).mono ?_
          rintro e w1 ⟨rfl, rfl⟩
          go_wp2_with fail
          refine (rank_none _ _).mono ?_
          rintro e w1 ⟨rfl, rfl⟩
          go_wp2_with fail
          refine (T17.out _ s0).mono ?_
          rintro e W1 ⟨rfl, s1⟩
          go_wp2_with fail
          refine (T27.out _ s1).mono ?_
          rintro e W2 ⟨rfl, s2⟩
          go_wp2_with fail
          refine (tput_none _ _ _).mono ?_
          rintro e W3 ⟨rfl, e3⟩
          obtain rfl : W2 = W3 := e3.symm
          go_wp2_with fail
          refine (tdrop_none _ _).mono ?_
          rintro e W3 ⟨rfl, e3⟩
          obtain rfl : W2 = W3 := e3.symm
          go_wp2_with fail
          refine (len_none _).mono ?_
          rintro e W3 ⟨rfl, e3⟩
          obtain rfl : W2 = W3 := e3.symm
          go_wp2_with fail
          refine (deepof_none _).mono ?_
          rintro e W3 ⟨rfl, e3⟩
          obtain rfl : W2 = W3 := e3.symm
          go_wp2_with fail
          refine (T22.out _ s2).mono ?_
          rintro e W3 ⟨X1, Y1, rfl, t1⟩
          go_wp2_with fail
          refine t1.out.mono ?_
          rintro e W4 ⟨a4, c4, rfl, s4⟩
          go_wp2_with fail
          refine (T23.out _ s4).mono ?_
          rintro e W5 ⟨X2, Y2, rfl, t2⟩
          go_wp2_with fail
          refine t2.out.mono ?_
          rintro e W6 ⟨a6, c6, rfl, s6⟩
          go_wp2_with fail
          refine (new_nil _).mono ?_
          rintro e W7 ⟨rfl, e3⟩
          obtain rfl : W6 = W7 := e3.symm
          go_wp2_with fail
          refine (T6.out _ s6).mono ?_
          rintro e W8 ⟨rfl, hB⟩
          go_wp2
          go_ret
          exact ⟨rfl, hB.out⟩
end Go.Proofs.Ytaoiadejafaleaa
