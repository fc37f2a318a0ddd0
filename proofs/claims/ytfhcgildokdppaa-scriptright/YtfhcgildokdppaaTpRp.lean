/-
  The document's Put by its contract: the bytes of each number, in order.
-/
import Derived.Test.YtfhcgildokdppaaTpPu
namespace Go.Proofs.Ytfhcgildokdppaa.tp
open Go.RowKit
/-- a byte ahead of a row of one's own. -/
theorem push_head {S : Nat} {w W : World} {u : Value} {zs : List Nat} (h : Made S w u zs W) (y : Nat) (hl : zs.length ≤ 1000) (ty : TypeId) :
    ∃ v' w', (Builtin.append_ #[35, 35] ty #[.slice (some ⟨W.heap.size, 0, none⟩) 1 1, u]).run Try.prog (W.alloc (.cells #[.int .u8 (y : Int)] 5)) = .ok v' w' ∧ ((∃ a k c, v' = .slice a k c) ∧ Hid (Made S w v' (y :: zs) w')) := by
  obtain ⟨q, c, rfl, h1, h2, h3, h4⟩ := own_la h.1
  have hb : Below W.heap.size W (W.alloc (.cells #[.int .u8 (y : Int)] 5)) := (Below.refl _ _).alloc (Nat.le_refl _) _
  have hmax : maxLen = 9223372036854775807 := by decide
  have ho : (W.alloc (.cells #[.int .u8 (y : Int)] 5)).ownsRow S 5 1 (.slice (some ⟨W.heap.size, 0, none⟩) 1 1) 1 ([y].map e8) := World.ownsRow_lit W #[.int .u8 (y : Int)] 1 h.size (by omega) rfl
  obtain ⟨v', w', hr, k1, k2⟩ := app_b ho (h2.below hb) h3 (by omega) (by have := h.size; simp; omega) ty
  refine ⟨v', w', hr, ?_, ?_, h.2.1.trans ((Keep.alloc _ _ _).trans (Keep.grown k2 fun j hj h' => ?_)), h.2.2⟩
  · obtain ⟨a, c', e⟩ := own_slice k1
    exact ⟨a, _, c', e⟩
  · rw [show (y :: zs).length = 1 + zs.length by simp [Nat.add_comm]]
    exact k1
  · have hj : W.heap.size = j := by simpa [Value.ownBlock] using hj
    have := h.size
    omega
/-- 255 and the eight bytes, behind a row of one's own. -/
theorem push_nine {base : Nat} {w V W : World} {v l8 : Value} {ys zs : List Nat} (h : Made base w v ys V) (h8 : Made V.heap.size V l8 zs W) (hl : ys.length ≤ 1000000) (hz : zs.length ≤ 1000) (ty : TypeId) :
    ∃ v' w', (Builtin.append_ #[35, 35] ty #[v, .slice (some ⟨W.heap.size, 0, none⟩) 1 1]).run Try.prog (W.alloc (.cells #[.int .u8 255] 5)) = .ok v' w' ∧ ((∃ a k c, v' = .slice a k c) ∧
      Hid (∀ ty, ∃ v2 w2, (Builtin.append_ #[35, 35] ty #[v', l8]).run Try.prog w' = .ok v2 w2 ∧ ((∃ a k c, v2 = .slice a k c) ∧ Hid (Made base w v2 (ys ++ 255 :: zs) w2)))) := by
  obtain ⟨q, c, rfl, h1, h2, h3, h4⟩ := own_la h8.1
  have hlt := World.ownsRow.lt h.1
  have hb : Below W.heap.size W (W.alloc (.cells #[.int .u8 255] 5)) := (Below.refl _ _).alloc (Nat.le_refl _) _
  have ho : (W.alloc (.cells #[.int .u8 255] 5)).ownsRow base 5 1 v ys.length (ys.map e8) := (h8.2.1.own h.1 fun k hk => (hlt k hk).2).alloc _
  obtain ⟨v', w', hr, k1, k2⟩ := app_b (zs := [255]) (a := some ⟨W.heap.size, 0, none⟩) (cap := 1) ho (la_lit W #[.int .u8 255] [255] rfl) (by simp) (by simp; omega) (by have := h.size; have := h8.2.1.size; simp; omega) ty
  refine ⟨v', w', hr, ?_, fun ty2 => ?_⟩
  · obtain ⟨a, c', e⟩ := own_slice k1
    exact ⟨a, _, c', e⟩
  · have hk : Keep (fun k => ¬ v.ownBlock = some k) (W.alloc (.cells #[.int .u8 255] 5)) w' := Keep.grown k2 fun j hj h' => h' hj
    have hla : La e8 w' q zs := (h2.below hb).keep hk fun b o hq h0 e => by
      have := h4 b o hq
      have := (hlt b e).2
      omega
    have hsz : base ≤ w'.heap.size := by
      have := h.size
      have := h8.2.1.size
      have := k2.size
      have : W.heap.size ≤ (W.alloc (.cells #[.int .u8 255] 5)).heap.size := by simp
      omega
    obtain ⟨v2, w2, hr2, m1, m2⟩ := app_b k1 hla h3 (by simp; omega) hsz ty2
    refine ⟨v2, w2, hr2, ?_, ?_, ?_, h.2.2⟩
    · obtain ⟨a, c', e⟩ := own_slice m1
      exact ⟨a, _, c', e⟩
    · rw [List.append_assoc] at m1
      rw [show (ys ++ 255 :: zs).length = ys.length + [255].length + zs.length by simp; omega]
      exact m1
    · refine h.2.1.trans ((h8.2.1.mono fun i hi hK => ?_).trans ((Keep.alloc _ _ _).trans ((hk.mono fun i hi hK e => ?_).trans (Keep.grown m2 fun j hj h' => ?_))))
      · exact hi
      · have := (hlt i e).1
        omega
      · have := (World.ownsRow.lt k1 j hj).1
        omega
theorem wd_u64 (n : Int) : IntKind.u64.wrap n = ((wd n : Nat) : Int) := by
  rw [IntKind.wrap_u64]
  unfold wd
  omega
/-- a number put behind the row: which way. -/
theorem en_way (n : Int) : (0 ≤ n ∧ n < 200 ∧ ∃ m : Nat, n = (m : Int) ∧ en n = [m]) ∨ (∃ d : Nat, n = (d : Int) + 200 ∧ d < 14080 ∧ en n = [200 + d / 256, d % 256]) ∨ ((decide (0 ≤ n) = true ∧ decide (n < 200) = false ∨ decide (0 ≤ n) = false) ∧ (decide (200 ≤ n) = true ∧ decide (n < 14280) = false ∨ decide (200 ≤ n) = false) ∧ en n = 255 :: be8 (wd n)) := by
  by_cases h1 : 0 ≤ n ∧ n < 200
  · refine .inl ⟨h1.1, h1.2, n.toNat, by omega, ?_⟩
    unfold en
    rw [if_pos h1]
  · by_cases h2 : 200 ≤ n ∧ n < 14280
    · refine .inr (.inl ⟨n.toNat - 200, by omega, by omega, ?_⟩)
      unfold en
      rw [if_neg h1, if_pos h2]
    · refine .inr (.inr ⟨?_, ?_, ?_⟩)
      · by_cases h0 : 0 ≤ n
        · exact .inl ⟨by simpa using h0, by simpa using fun h => h1 ⟨h0, h⟩⟩
        · exact .inr (by simpa using h0)
      · by_cases h0 : 200 ≤ n
        · exact .inl ⟨by simpa using h0, by simpa using fun h => h2 ⟨h0, h⟩⟩
        · exact .inr (by simpa using h0)
      · unfold en
        rw [if_neg h1, if_neg h2]
set_option maxRecDepth 100000 in
set_option maxHeartbeats 2000000 in
theorem refput17 (p : Option Addr) (cap : Nat) (ls : List Int) (w : World) (hl : ls.length ≤ 1000) (hp : La eI w p ls) (hx : ∀ x ∈ ls, -9223372036854775808 ≤ x ∧ x < 9223372036854775808) :
    Calls Try.prog 48 #[.slice p ls.length cap] w fun e B => ∃ v k c, e = .returned (.slice v k c) ∧ k = (ens ls).length ∧ Hid (Cl w (.slice v k c) (ens ls) B) := by
  have S : Hid (Made w.heap.size w (.slice none 0 0) (ens (ls.take 0)) w) := by
    rw [List.take_zero, show ens [] = [] from rfl]
    exact ⟨World.ownsRow_nil _ _ _ _, Keep.refl _ _, Nat.le_refl _⟩
  have N : Hid (∀ j v W, j < ls.length → Hid (Made w.heap.size w v (ens (ls.take j)) W) → ∃ (b o : Nat) (x : Int), p = some ⟨b, o, none⟩ ∧ W.cell? ⟨b, o + j, none⟩ = some (.int .i64 x) ∧ -9223372036854775808 ≤ x ∧ x < 9223372036854775808 ∧
      Hid (x = x ∧ (ens (ls.take j)).length ≤ 1000000 ∧ (ens (ls.take j)) ++ en x = ens (ls.take (j + 1)))) := fun j v W hj h => by
    obtain ⟨b, o, hp', hc⟩ := now hp j hj
    have hr := hx _ (List.getElem_mem hj)
    have hlen := ens_len (ls.take j)
    rw [List.length_take] at hlen
    exact ⟨b, o, ls[j], hp', hc.out W h.out.cl.2, hr.1, hr.2, rfl, by omega, ens_take ls j hj⟩
  have D : Hid (∀ v k c W, Hid (Made w.heap.size w (.slice v k c) (ens (ls.take ls.length)) W) → k = (ens ls).length ∧ Hid (Cl w (.slice v k c) (ens ls) W)) := fun v k c W h => by
    rw [List.take_length] at h
    obtain ⟨_, _, e⟩ := h.out.sl
    injection e with _ e _
    exact ⟨e, h.out.cl⟩
  clear hp hx
  generalize ls.length = L at *
  go_enter Try.func48, Try.ntmps48
  go_wp2_with fail
  go_loopw [3, 4] (fun b i wr => ∃ j : Nat, j ≤ L ∧ i = .int .i64 j ∧ (∃ a k c, b = .slice a k c) ∧ Hid (Made w.heap.size w b (ens (ls.take j)) wr)) (fun _ i _ => L - (intOf i).toNat)
  case atStart => exact ⟨0, by omega, rfl, ⟨_, _, _, rfl⟩, S⟩
  case round =>
    obtain ⟨j, hj, rfl, ⟨a2, k2, c2, rfl⟩, hM⟩ := hrel
    clear S
    by_cases hlt : j < L
    · obtain ⟨b, o, n, rfl, hc, hn1, hn2, hE⟩ := N.out j _ _ hlt hM
      have hjL : (j : Int) < (L : Int) := by omega
      have sl : ∀ {W : World} {v : Value} {ys : List Nat}, Made w.heap.size w v ys W → ∃ a k c, v = .slice a k c := fun h => by obtain ⟨a, c, e⟩ := h.sl; exact ⟨a, _, c, e⟩
      rcases en_way n with ⟨h0, h200, m, rfl, he⟩ | ⟨d, rfl, hd, he⟩ | ⟨z1, z2, he⟩
      · have P : Hid (∀ ty, ∃ v' w', (Builtin.append_ #[35, 35] ty #[.slice a2 k2 c2, .slice (some ⟨wr.heap.size, 0, none⟩) 1 1]).run Try.prog (wr.alloc (.cells #[.int .u8 (m : Int)] 5)) = .ok v' w' ∧ ((∃ a k c, v' = .slice a k c) ∧ Hid (Made w.heap.size w v' (ens (ls.take (j + 1))) w'))) := fun ty => by
          obtain ⟨v', w', hr, _, h2⟩ := push_lit hM.out [m] 1 rfl #[.int .u8 (m : Int)] rfl (by have := hE.out.2.1; omega) ty
          rw [← he, hE.out.2.2] at h2
          exact ⟨v', w', hr, sl h2.out, h2⟩
        have z2 : IntKind.u8.wrap (m : Int) = (m : Int) := by rw [IntKind.wrap_u8']; omega
        clear N D hM hE he sl
        go_wp2_with (at_builtin; refine app_step _ rfl _ _ 35 rfl _ _ rfl rfl (P.out _) ?_; rintro v2 w2 ⟨⟨a3, k3, c3, rfl⟩, q2⟩)
        go_roundw
        case rel => exact ⟨j + 1, by omega, by simp, ⟨_, _, _, rfl⟩, q2⟩
        case measure => simp [intOf]; omega
      · obtain ⟨x, hx⟩ : ∃ x, d / 256 = x := ⟨_, rfl⟩
        obtain ⟨y, hy⟩ : ∃ y, d % 256 = y := ⟨_, rfl⟩
        have z4 : (d : Int) / 256 = (x : Int) := by omega
        have z5 : (d : Int) % 256 = (y : Int) := by omega
        rw [hx, hy] at he
        have P : Hid (∀ ty, ∃ v' w', (Builtin.append_ #[35, 35] ty #[.slice a2 k2 c2, .slice (some ⟨wr.heap.size, 0, none⟩) 2 2]).run Try.prog (wr.alloc (.cells #[.int .u8 (200 + (x : Int)), .int .u8 (y : Int)] 5)) = .ok v' w' ∧ ((∃ a k c, v' = .slice a k c) ∧ Hid (Made w.heap.size w v' (ens (ls.take (j + 1))) w'))) := fun ty => by
          obtain ⟨v', w', hr, _, h2⟩ := push_lit hM.out [200 + x, y] 2 rfl #[.int .u8 (200 + (x : Int)), .int .u8 (y : Int)] (by simp [e8]) (by have := hE.out.2.1; omega) ty
          rw [← he, hE.out.2.2] at h2
          exact ⟨v', w', hr, sl h2.out, h2⟩
        have y1 : (200 : Int) ≤ (d : Int) + 200 := by omega
        have y2 : (d : Int) + 200 < 14280 := by omega
        have y3 : (d : Int) + 200 - 200 = (d : Int) := by omega
        have y6 : IntKind.u8.wrap (200 + (x : Int)) = 200 + (x : Int) := by rw [IntKind.wrap_u8']; omega
        have y7 : IntKind.u8.wrap (y : Int) = (y : Int) := by rw [IntKind.wrap_u8']; omega
        have y8 : ¬ (d : Int) + 200 < 200 := by omega
        have y9 : (0 : Int) ≤ (d : Int) + 200 := by omega
        have hxl : x ≤ 55 := by omega
        have hyl : y < 256 := by omega
        clear N D hM hE he sl hx hy
        go_wp2_with (at_builtin; refine app_step _ rfl _ _ 35 rfl _ _ rfl rfl (P.out _) ?_; rintro v2 w2 ⟨⟨a3, k3, c3, rfl⟩, q2⟩)
        go_roundw
        case rel => exact ⟨j + 1, by omega, by simp, ⟨_, _, _, rfl⟩, q2⟩
        case measure => simp [intOf]; omega
      · obtain ⟨f, hf⟩ : ∃ f : Nat → Nat, ∀ i, wd n / 256 ^ i = f i := ⟨_, fun _ => rfl⟩
        have f0 : IntKind.u64.wrap n = ((f 0 : Nat) : Int) := by rw [wd_u64, ← hf, Nat.pow_zero, Nat.div_one]
        have fs : Hid (∀ i, f i < 18446744073709551616 ∧ f i / 256 = f (i + 1)) := fun i => by
          rw [← hf, ← hf, Nat.pow_succ, ← Nat.div_div_eq_div_mul]
          exact ⟨Nat.lt_of_le_of_lt (Nat.div_le_self _ _) (wd_lt n), rfl⟩
        have I0 : Hid (Made wr.heap.size wr (.slice none 0 0) ((be8 (wd n)).drop (8 - 0)) wr) := by
          rw [List.drop_of_length_le (by rw [be8_len]; omega)]
          exact ⟨World.ownsRow_nil _ _ _ _, Keep.refl _ _, Nat.le_refl _⟩
        obtain ⟨V, hV⟩ : ∃ V, V = wr := ⟨_, rfl⟩
        have R : Hid (∀ (i : Nat) (u : Value) (W : World), i < 8 → Hid (Made V.heap.size V u ((be8 (wd n)).drop (8 - i)) W) → ∃ y : Nat, y < 256 ∧ f i % 256 = y ∧
            Hid (∀ ty, ∃ v' w', (Builtin.append_ #[35, 35] ty #[.slice (some ⟨W.heap.size, 0, none⟩) 1 1, u]).run Try.prog (W.alloc (.cells #[.int .u8 (y : Int)] 5)) = .ok v' w' ∧ ((∃ a k c, v' = .slice a k c) ∧ Hid (Made V.heap.size V v' ((be8 (wd n)).drop (8 - (i + 1))) w')))) := fun i u W hi h =>
          ⟨f i % 256, Nat.mod_lt _ (by decide), rfl, fun ty => by
            have := push_head h.out (f i % 256) (by rw [List.length_drop, be8_len]; omega) ty
            rw [← hf, be8_drop _ _ hi] at this
            rw [← hf]
            exact this⟩
        have G : Hid (∀ (u : Value) (W : World), Hid (Made V.heap.size V u ((be8 (wd n)).drop (8 - 8)) W) → Hid (∀ ty, ∃ v' w', (Builtin.append_ #[35, 35] ty #[.slice a2 k2 c2, .slice (some ⟨W.heap.size, 0, none⟩) 1 1]).run Try.prog (W.alloc (.cells #[.int .u8 255] 5)) = .ok v' w' ∧ ((∃ a k c, v' = .slice a k c) ∧
            Hid (∀ ty, ∃ v2 w2, (Builtin.append_ #[35, 35] ty #[v', u]).run Try.prog w' = .ok v2 w2 ∧ ((∃ a k c, v2 = .slice a k c) ∧ Hid (Made w.heap.size w v2 (ens (ls.take (j + 1))) w2)))))) := fun u W h ty => by
          subst hV
          have := push_nine hM.out h.out hE.out.2.1 (by rw [List.length_drop, be8_len]; omega) ty
          rw [Nat.sub_self, List.drop_zero, ← he, hE.out.2.2] at this
          exact this
        rw [← hV] at I0
        have HV := Lib.hid hV
        clear N D hM hE he sl hf hV
        have hj2 : j + 1 ≤ L := by omega
        rcases z1 with ⟨y1, y2⟩ | y1 <;> rcases z2 with ⟨y3, y4⟩ | y3
        all_goals (
          go_wp2_with fail
          go_loopw [7, 8, 9] (fun x u k wr2 => ∃ i : Nat, i ≤ 8 ∧ k = .int .i64 i ∧ x = .int .u64 (f i : Nat) ∧ (∃ a k c, u = .slice a k c) ∧ Hid (Made V.heap.size V u ((be8 (wd n)).drop (8 - i)) wr2)) (fun _ _ k _ => 8 - (intOf k).toNat)
          case' atStart => exact ⟨0, by omega, rfl, by rw [← f0], ⟨_, _, _, rfl⟩, by rw [← HV.out]; exact I0⟩
          case' round =>
            obtain ⟨i, hi, rfl, rfl, ⟨a3, k3, c3, rfl⟩, hI⟩ := hrel
            obtain ⟨w5, rfl⟩ : ∃ w5, w5 = wr := ⟨_, rfl⟩
            clear f0 I0)
        all_goals (
          by_cases h8 : i < 8
          · obtain ⟨y, hy, hfy, A⟩ := R.out i _ _ h8 hI
            obtain ⟨hfl, hfd⟩ := fs.out i
            have hfd' : ((f i : Nat) : Int) / 256 = ((f (i + 1) : Nat) : Int) := by omega
            have hfy' : ((f i : Nat) : Int) % 256 = (y : Int) := by omega
            have hu8 : IntKind.u8.wrap (y : Int) = (y : Int) := by rw [IntKind.wrap_u8']; omega
            have h8' : (i : Int) < 8 := by omega
            clear R G fs hI hfd hfy
            generalize hn1 : f (i + 1) = f1 at *
            have HF := Lib.hid hn1
            clear hn1
            generalize f i = fi at *
            go_wp2_with (at_builtin; refine app_step _ rfl _ _ 35 rfl _ _ rfl rfl (A.out _) ?_; rintro v4 w4 ⟨⟨a4, k4, c4, rfl⟩, q4⟩)
            go_roundw
            case rel => exact ⟨i + 1, by omega, by simp, by rw [HF.out], ⟨_, _, _, rfl⟩, q4⟩
            case measure => simp [intOf]; omega
          · obtain rfl : i = 8 := by omega
            have G1 := G.out _ _ hI
            clear R G fs hI
            go_wp2_with (first | (at_builtin; refine app_step _ rfl _ _ 35 rfl _ _ rfl rfl (G2.out _) ?_; rintro v6 w6 ⟨⟨a6, k6, c6, rfl⟩, q6⟩) | (at_builtin; refine app_step _ rfl _ _ 35 rfl _ _ rfl rfl (G1.out _) ?_; rintro v4 w4 ⟨⟨a4, k4, c4, rfl⟩, G2⟩))
            go_roundw
            case rel => exact ⟨j + 1, by omega, by simp, ⟨_, _, _, rfl⟩, q6⟩
            case measure => simp [intOf]; omega)
    · obtain rfl : j = L := by omega
      have F := D.out _ _ _ _ hM
      clear D N hM
      go_wp2
      go_ret
      exact ⟨_, _, _, rfl, F.1, F.2⟩
end Go.Proofs.Ytfhcgildokdppaa.tp
