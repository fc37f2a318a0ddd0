/-
  The document's Estimate by its contract: what one key's number is behind all keys that came.
-/
import Derived.Test.YtnhpcjiieagjnaaRkNone
namespace Go.Proofs.Ytnhpcjiieagjnaa.rk
open Go.RowKit
theorem run_low (lim : Nat) (l : List Nat) : Low (runE lim l) := by
  unfold runE
  suffices ∀ (l : List Nat) (e : Ez), Low e → Low (l.foldl (fun e x => addE lim x e) e) from this l es0 fun _ => Nat.zero_le _
  intro l
  induction l with
  | nil => exact fun e h => h
  | cons x l ih => exact fun e h => ih _ (h.add lim x)
/-- what a round makes of whether the key came, of its number. -/
structure Steps (lim h : Nat) (l : List Nat) (C : Nat → Bool) (M : Nat → Nat) : Prop where
  c0 : C 0 = false
  m0 : M 0 = 0
  low : ∀ i, M i ≤ 15
  both : ∀ i x, l[i]? = some x → (i + 1) % lim ≠ 0 → x = h → C i = true → C (i + 1) = true ∧ M (i + 1) = min 15 (M i + 1)
  first : ∀ i x, l[i]? = some x → (i + 1) % lim ≠ 0 → x = h → C i = false → C (i + 1) = true ∧ M (i + 1) = M i
  other : ∀ i x, l[i]? = some x → (i + 1) % lim ≠ 0 → x ≠ h → C (i + 1) = C i ∧ M (i + 1) = M i
  both0 : ∀ i x, l[i]? = some x → (i + 1) % lim = 0 → x = h → C i = true → C (i + 1) = false ∧ M (i + 1) = min 15 (M i + 1) / 2
  first0 : ∀ i x, l[i]? = some x → (i + 1) % lim = 0 → x = h → C i = false → C (i + 1) = false ∧ M (i + 1) = M i / 2
  other0 : ∀ i x, l[i]? = some x → (i + 1) % lim = 0 → x ≠ h → C (i + 1) = false ∧ M (i + 1) = M i / 2
theorem steps_run (lim h : Nat) (hl : 0 < lim) (l : List Nat) : Steps lim h l (fun i => (runE lim (l.take i)).came h) (fun i => (runE lim (l.take i)).num h) := by
  have st := fun i x (hx : l[i]? = some x) => run_step lim hl l i x h hx
  refine ⟨rfl, rfl, fun i => run_low lim _ h, ?_, ?_, ?_, ?_, ?_, ?_⟩
  all_goals
    intro i x hx hr hxh
    obtain ⟨h1, h2⟩ := st i x hx
  · intro hc
    rw [if_neg hr, if_pos ⟨hxh, hc⟩] at h1
    rw [if_neg hr, if_pos hxh] at h2
    exact ⟨h2, h1⟩
  · intro hc
    rw [if_neg hr, if_neg (fun h' => by rw [hc] at h'; exact absurd h'.2 (by decide))] at h1
    rw [if_neg hr, if_pos hxh] at h2
    exact ⟨h2, h1⟩
  · rw [if_neg hr, if_neg (fun h' => hxh h'.1)] at h1
    rw [if_neg hr, if_neg hxh] at h2
    exact ⟨h2, h1⟩
  · intro hc
    rw [if_pos hr, if_pos ⟨hxh, hc⟩] at h1
    rw [if_pos hr] at h2
    exact ⟨h2, h1⟩
  · intro hc
    rw [if_pos hr, if_neg (fun h' => by rw [hc] at h'; exact absurd h'.2 (by decide))] at h1
    rw [if_pos hr] at h2
    exact ⟨h2, h1⟩
  · rw [if_pos hr, if_neg (fun h' => hxh h'.1)] at h1
    rw [if_pos hr] at h2
    exact ⟨h2, h1⟩
set_option maxHeartbeats 4000000 in
theorem refest_any (c : Int) (lim : Nat) (hlim : max 1 (min c 4096) = (lim : Int)) (w : World) (p : Option Addr) (cap : Nat) (l : List Nat) (hk : Ks (fun _ => True) w p l) (hl : l.length ≤ 1000000) (h : Nat) :
    Calls Try.prog 8 #[.int .i64 c, .slice p l.length cap, .int .u64 (h : Int)] w fun r B => r = .returned (.int .i64 (estE h (runE lim l) : Int)) ∧ B = w := by
  have hp : 0 < lim ∧ lim ≤ 4096 := by omega
  have S := Lib.hid (steps_run lim h hp.1 l)
  have E : Hid (estE h (runE lim l) = (runE lim (l.take l.length)).num h + if (runE lim (l.take l.length)).came h = true then 1 else 0) := by
    show estE h (runE lim l) = _
    rw [List.take_length]; rfl
  obtain ⟨C, hC⟩ : ∃ C : Nat → Bool, (fun i => (runE lim (l.take i)).came h) = C := ⟨_, rfl⟩
  obtain ⟨M, hM⟩ : ∃ M : Nat → Nat, (fun i => (runE lim (l.take i)).num h) = M := ⟨_, rfl⟩
  rw [hC, hM] at S
  have E' : Hid (estE h (runE lim l) = M l.length + if C l.length = true then 1 else 0) := by
    subst hC hM
    exact E
  clear E hC hM
  have G : Hid (∀ j, j < l.length → ∃ (b o x : Nat), p = some ⟨b, o, none⟩ ∧ w.cell? ⟨b, o + j, none⟩ = some (.int .u64 (x : Int)) ∧ Hid (l[j]? = some x)) := fun j hj => by
    obtain ⟨b, o, x, hp, hx, hlt, hcell⟩ := hk.at_ (Keep.refl _ _) j hj
    exact ⟨b, o, x, hp, hcell, hx⟩
  clear hk
  generalize estE h (runE lim l) = y at *
  have c0 := S.out.c0
  have m0 := S.out.m0
  obtain ⟨len, hlen⟩ : ∃ len, l.length = len := ⟨_, rfl⟩
  rw [hlen] at G E' hl ⊢
  clear hlen
  go_enter Try.func8, Try.ntmps8
  go_wp2_with fail
  go_loopw [8, 9, 10] (fun a b i wr => ∃ j : Nat, j ≤ len ∧ i = .int .i64 j ∧ a = .bool (C j) ∧ b = .int .i64 (M j : Int) ∧ wr = w) (fun _ _ i _ => len - (intOf i).toNat)
  case atStart => exact ⟨0, by omega, rfl, by rw [c0], by rw [m0]; rfl, rfl⟩
  case round =>
    obtain ⟨j, hj, rfl, rfl, rfl, rfl⟩ := hrel
    clear c0 m0
    by_cases hlt : j < len
    · obtain ⟨b, o, x, rfl, d0, hx⟩ := G.out j hlt
      have h1 : (0 : Int) ≤ (j : Int) := by omega
      have h2 : (j : Int) < (len : Int) := by omega
      have hlow := S.out.low j
      have hz : ¬ (lim : Int) = 0 := by omega
      obtain ⟨r, hr, hr'⟩ : ∃ r : Nat, ((j : Int) + 1).tmod (lim : Int) = (r : Int) ∧ (j + 1) % lim = r := ⟨(j + 1) % lim, by rw [Int.tmod_eq_emod_of_nonneg (by omega), Int.natCast_emod]; rfl, rfl⟩
      clear G
      obtain ⟨m, hm⟩ : ∃ m, M j = m := ⟨_, rfl⟩
      obtain ⟨q, hq, hq'⟩ : ∃ q : Nat, (m : Int).tdiv 2 = (q : Int) ∧ m / 2 = q := ⟨m / 2, by rw [Int.tdiv_eq_ediv_of_nonneg (by omega)]; omega, rfl⟩
      obtain ⟨u, hu, hu'⟩ : ∃ u : Nat, min (15 : Int) ((m : Int) + 1) = (u : Int) ∧ min 15 (m + 1) = u := ⟨min 15 (m + 1), by omega, rfl⟩
      obtain ⟨z, hzq, hzq'⟩ : ∃ z : Nat, (u : Int).tdiv 2 = (z : Int) ∧ u / 2 = z := ⟨u / 2, by rw [Int.tdiv_eq_ediv_of_nonneg (by omega)]; omega, rfl⟩
      rw [hm] at hlow
      have w1 : IntKind.i64.wrap ((m : Int) + 1) = (m : Int) + 1 := by simp only [IntKind.wrap_i64]; omega
      have w2 : IntKind.i64.wrap (q : Int) = (q : Int) := by simp only [IntKind.wrap_i64]; omega
      have w3 : IntKind.i64.wrap (z : Int) = (z : Int) := by simp only [IntKind.wrap_i64]; omega
      have w4 : IntKind.i64.wrap ((j : Int) + 1) = (j : Int) + 1 := by simp only [IntKind.wrap_i64]; omega
      have w5 : IntKind.i64.wrap (r : Int) = (r : Int) := by
        have : r < lim := by rw [← hr']; exact Nat.mod_lt _ (by omega)
        simp only [IntKind.wrap_i64]; omega
      by_cases hxh : x = h
      · have g1 : ((x : Int) == (h : Int)) = true := by simp [hxh]
        cases hc : C j
        · by_cases h0 : r = 0
          · have N := Lib.hid (S.out.first0 j x hx.out (hr'.trans h0) hxh hc)
            have g2 : ((r : Int) == 0) = true := by simp [h0]
            rw [hm, hq'] at N
            rw [hm]
            clear hq' hu' hzq' hr' hxh h0 hm hc hx hlow
            go_wp2_with fail
            go_roundw
            case rel => exact ⟨j + 1, by omega, by simp, by rw [N.out.1], by rw [N.out.2], trivial⟩
            case measure => simp [intOf]; omega
          · have N := Lib.hid (S.out.first j x hx.out (by rw [hr']; exact h0) hxh hc)
            have g2 : ((r : Int) == 0) = false := by simp; omega
            rw [hm] at N
            rw [hm]
            clear hq' hu' hzq' hr' hxh h0 hm hc hx hlow
            go_wp2_with fail
            go_roundw
            case rel => exact ⟨j + 1, by omega, by simp, by rw [N.out.1], by rw [N.out.2], trivial⟩
            case measure => simp [intOf]; omega
        · by_cases h0 : r = 0
          · have N := Lib.hid (S.out.both0 j x hx.out (hr'.trans h0) hxh hc)
            have g2 : ((r : Int) == 0) = true := by simp [h0]
            rw [hm, hu', hzq'] at N
            rw [hm]
            clear hq' hu' hzq' hr' hxh h0 hm hc hx hlow
            go_wp2_with fail
            go_roundw
            case rel => exact ⟨j + 1, by omega, by simp, by rw [N.out.1], by rw [N.out.2], trivial⟩
            case measure => simp [intOf]; omega
          · have N := Lib.hid (S.out.both j x hx.out (by rw [hr']; exact h0) hxh hc)
            have g2 : ((r : Int) == 0) = false := by simp; omega
            rw [hm, hu'] at N
            rw [hm]
            clear hq' hu' hzq' hr' hxh h0 hm hc hx hlow
            go_wp2_with fail
            go_roundw
            case rel => exact ⟨j + 1, by omega, by simp, by rw [N.out.1], by rw [N.out.2], trivial⟩
            case measure => simp [intOf]; omega
      · have g1 : ((x : Int) == (h : Int)) = false := by simp; omega
        obtain ⟨c1, hc⟩ : ∃ c1, C j = c1 := ⟨_, rfl⟩
        by_cases h0 : r = 0
        · have N := Lib.hid (S.out.other0 j x hx.out (hr'.trans h0) hxh)
          have g2 : ((r : Int) == 0) = true := by simp [h0]
          rw [hm, hq'] at N
          rw [hm, hc]
          clear hq' hu' hzq' hr' hxh h0 hm hc hx hlow
          go_wp2_with fail
          go_roundw
          case rel => exact ⟨j + 1, by omega, by simp, by rw [N.out.1], by rw [N.out.2], trivial⟩
          case measure => simp [intOf]; omega
        · have N := Lib.hid (S.out.other j x hx.out (by rw [hr']; exact h0) hxh)
          have g2 : ((r : Int) == 0) = false := by simp; omega
          rw [hm, hc] at N
          rw [hm, hc]
          clear hq' hu' hzq' hr' hxh h0 hm hc hx hlow
          go_wp2_with fail
          go_roundw
          case rel => exact ⟨j + 1, by omega, by simp, by rw [N.out.1], by rw [N.out.2], trivial⟩
          case measure => simp [intOf]; omega
    · obtain rfl : j = len := by omega
      have hE := E'.out
      have hlow := S.out.low j
      clear S G
      generalize M j = m at *
      cases hc : C j
      · rw [hc] at hE
        have e : y = m := by simpa using hE
        subst e
        go_wp2
        go_ret
        exact ⟨rfl, rfl⟩
      · rw [hc] at hE
        have e : y = m + 1 := by simpa using hE
        subst e
        have hw : IntKind.i64.wrap ((m : Int) + 1) = (m : Int) + 1 := by simp only [IntKind.wrap_i64]; omega
        go_wp2
        go_ret
        exact ⟨by simp, rfl⟩
end Go.Proofs.Ytnhpcjiieagjnaa.rk
