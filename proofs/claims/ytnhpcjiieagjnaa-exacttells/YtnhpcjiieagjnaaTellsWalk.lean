/-
  ExactTells walked: for every int and every slice of words it returns true; what was in memory stays.
-/
import Derived.Test.YtnhpcjiieagjnaaRkAwake
import Derived.Deep.QuietTactic
namespace Go.Proofs.Ytnhpcjiieagjnaa.rk
open Go.RowKit
theorem fs_le (f : Nat → Bool) (l : List Nat) : (fs f l).length ≤ l.length := by
  unfold fs
  suffices ∀ (l acc : List Nat), (l.foldl (fun acc x => if f x = true ∧ x ∉ acc then acc ++ [x] else acc) acc).length ≤ acc.length + l.length by simpa using this l []
  intro l
  induction l with
  | nil => exact fun acc => Nat.le_refl _
  | cons x l ih =>
    intro acc
    rw [List.foldl_cons]
    refine Nat.le_trans (ih _) ?_
    split <;> simp <;> omega
/-- the first keys of a slice. -/
theorem Ks.take {K : Nat → Prop} {w : World} {p : Option Addr} {l : List Nat} (h : Ks K w p l) (n : Nat) : Ks K w p (l.take n) := fun h0 => by
  have h1 : 0 < l.length := by rw [List.length_take] at h0; omega
  obtain ⟨b, o, hp, hK, hi⟩ := h h1
  refine ⟨b, o, hp, hK, fun i hil => ?_⟩
  rw [List.length_take] at hil
  rw [List.getElem_take]
  exact hi i (by omega)
set_option maxRecDepth 100000 in
set_option maxHeartbeats 20000000 in
theorem tells_some (c : Int) (p : Option Addr) (cap : Nat) (l : List Nat) (w : World) (hl : l.length ≤ 40) (hcap : l.length ≤ cap) (hr : Ks (fun _ => True) w p l) :
    Calls Try.prog 3 #[.int .i64 c, .slice p l.length cap] w fun e B => e = .returned (.bool true) ∧ Below w.heap.size w B := by
  obtain ⟨lim, hlm⟩ : ∃ lim, (min (max c 1) 4096).toNat = lim := ⟨_, rfl⟩
  have hlim : 0 < lim ∧ lim ≤ 4096 := by omega
  have hlc : max 1 (min c 4096) = (lim : Int) := by omega
  have T5 := new_tst c w l
  rw [hlm] at T5
  have N5 := Lib.hid T5
  clear T5 hlm
  -- a key, as it reads now
  have C : Hid (∀ V, Below w.heap.size w V → ∀ j, j < l.length → ∃ (b o x : Nat), p = some ⟨b, o, none⟩ ∧ V.cell? ⟨b, o + j, none⟩ = some (.int .u64 (x : Int)) ∧ Hid (l[j]? = some x)) := fun V hV j hj => by
    obtain ⟨b, o, x, hp, hx, _, hc⟩ := (Ks.keep (K := fun k => k < w.heap.size) (fun h0 => by
      obtain ⟨b, o, hp, _, hi⟩ := hr h0
      exact ⟨b, o, hp, World.block_lt_of_cell? w ⟨b, o + 0, none⟩ (hi 0 h0).1, hi⟩) ⟨hV.os, hV.tape, hV.output, hV.size, fun k hk _ => hV.block k hk⟩).at_ (Keep.refl _ _) j hj
    exact ⟨b, o, x, hp, hc, hx⟩
  have HR := Lib.hid hr
  have HC := Lib.hid hcap
  clear hr
  obtain ⟨len, hlen⟩ : ∃ len, l.length = len := ⟨_, rfl⟩
  have HL := Lib.hid hlen
  rw [hlen] at C hl hcap ⊢
  go_enter Try.func3, Try.ntmps3
  go_wp2_with fail
  refine N5.out.mono ?_
  rintro e w1 ⟨X, rfl, hX⟩
  have H1 : Hid (Tst w X lim l 0 w1) := hX.out.2
  have HX : Hid (w.heap.size ≤ X) := hX.out.1
  clear N5 hX
  go_wp2_with fail
  go_loopw [7] (fun i wr => ∃ j : Nat, j ≤ len ∧ i = .int .i64 j ∧ Hid (Tst w X lim l j wr)) (fun i _ => len - (intOf i).toNat)
  case atStart => exact ⟨0, by omega, rfl, H1⟩
  case round =>
    obtain ⟨i, hi, rfl, hI⟩ := hrel
    clear H1
    by_cases hlt : i < len
    · obtain ⟨b, o, x, rfl, d0, hx⟩ := C.out wr hI.out.old i hlt
      have A6 := Lib.hid (hI.out.add6 HX.out hlim (by rw [HL.out]; omega) x hx.out)
      have h1 : (0 : Int) ≤ (i : Int) := by omega
      have h2 : (i : Int) < (len : Int) := by omega
      clear hI hx
      go_wp2_with fail
      refine A6.out.mono ?_
      rintro e w2 ⟨rfl, H2⟩
      clear A6 d0
      obtain ⟨r, hr, hr'⟩ : ∃ r : Nat, ((i : Int) + 1).tmod (lim : Int) = (r : Int) ∧ (i + 1) % lim = r := ⟨(i + 1) % lim, by rw [Int.tmod_eq_emod_of_nonneg (by omega), Int.natCast_emod]; rfl, rfl⟩
      have w4 : IntKind.i64.wrap ((i : Int) + 1) = (i : Int) + 1 := by simp only [IntKind.wrap_i64]; omega
      have w5 : IntKind.i64.wrap (r : Int) = (r : Int) := by
        have : r < lim := by rw [← hr']; exact Nat.mod_lt _ (by omega)
        simp only [IntKind.wrap_i64]; omega
      have hz : ¬ (lim : Int) = 0 := by omega
      have hne : ((r : Int) != (r : Int)) = false := by simp
      have T7 : Hid (∀ q, Calls Try.prog 7 #[.pointer (some ⟨X, 0, none⟩)] (w2.drewN q) fun e w' => e = .returned (.int .i64 (r : Int)) ∧ ∃ m, w' = (w2.drewN q).drewN m) := fun q => by
        have := (H2.out.drewN q).count7 hlim.1 (by rw [HL.out]; omega)
        rw [hr'] at this
        exact this.mono fun e w' ⟨he, hw⟩ => ⟨he, 0, hw⟩
      have H2' : Hid (∀ q, Tst w X lim l (i + 1) (w2.drewN q)) := fun q => H2.out.drewN q
      clear H2 hr'
      go_wp2_with fail
      go_quiet (first | (go_at_call 7; exact Calls.quiet_of (T7.out _)))
      go_wp2_with fail
      clear T7 hr w5 hz hne
      -- the numbers of the keys
      obtain ⟨EE, hEE⟩ : ∃ EE : Nat → Nat, (fun y => estE y (runE lim (l.take (i + 1)))) = EE := ⟨_, rfl⟩
      obtain ⟨MN, hMN⟩ : ∃ MN : Nat → Nat, (fun k => (fs (fun y => decide (0 < EE y)) (l.take k)).length) = MN := ⟨_, rfl⟩
      have M0 : MN 0 = 0 := by rw [← hMN]; rfl
      have MS : Hid (∀ (k y : Nat), l[k]? = some y → MN (k + 1) = MN k + if 0 < EE y ∧ noneOf y l k = true then 1 else 0) := fun k y hy => by
        subst hMN
        have := many_next (fun y => decide (0 < EE y)) l k y hy
        simpa using this
      have MB : Hid (∀ k, MN k ≤ 40) := fun k => by
        subst hMN
        have := fs_le (fun y => decide (0 < EE y)) (l.take k)
        rw [List.length_take, HL.out] at this
        show (fs _ (l.take k)).length ≤ 40
        omega
      have T10 : Hid (∀ V, Hid (Tst w X lim l (i + 1) V) → Calls Try.prog 10 #[.pointer (some ⟨X, 0, none⟩)] V fun e B => e = .returned (.int .i64 (MN len : Int)) ∧ B = V) := fun V hV => by
        have := hV.out.len10
        subst hMN hEE
        have hl' : l.take len = l := by rw [← HL.out]; exact List.take_length
        simp only [hl']
        exact this
      have T9 : Hid (∀ (V : World) (y : Nat), Hid (Tst w X lim l (i + 1) V) → Calls Try.prog 9 #[.pointer (some ⟨X, 0, none⟩), .int .u64 (y : Int)] V fun e B => e = .returned (.int .i64 (EE y : Int)) ∧ Hid (Tst w X lim l (i + 1) B)) := fun V y hV => by
        subst hEE
        exact hV.out.est9 y
      have T8 : Hid (∀ (V : World) (y : Nat), Below w.heap.size w V → Calls Try.prog 8 #[.int .i64 c, .slice (some ⟨b, o, none⟩) (i + 1) cap, .int .u64 (y : Int)] V fun e w' => e = .returned (.int .i64 (EE y : Int)) ∧ ∃ m, w' = V.drewN m) := fun V y hV => by
        subst hEE
        have hk : Ks (fun _ => True) V (some ⟨b, o, none⟩) (l.take (i + 1)) := by
          refine Ks.take (fun h0 => ?_) _
          obtain ⟨b', o', hp, _, hi⟩ := HR.out h0
          exact ⟨b', o', hp, trivial, fun q hq => ⟨(hV.cell (p := ⟨b', o' + q, none⟩) (World.block_lt_of_cell? w ⟨b', o' + q, none⟩ (hi q hq).1)).trans (hi q hq).1, (hi q hq).2⟩⟩
        have := refest_any c lim hlc V (some ⟨b, o, none⟩) cap (l.take (i + 1)) hk (by rw [List.length_take]; omega) y
        rw [show (l.take (i + 1)).length = i + 1 by rw [List.length_take, HL.out]; omega] at this
        exact this.mono fun e w' ⟨he, hw⟩ => ⟨he, 0, hw⟩
      clear hEE hMN
      go_loopw [8, 9] (fun a q wr => ∃ k : Nat, k ≤ len ∧ q = .int .i64 k ∧ a = .int .i64 (MN k : Int) ∧ Hid (Tst w X lim l (i + 1) wr)) (fun _ q _ => len - (intOf q).toNat)
      case atStart => exact ⟨0, by omega, rfl, by rw [M0]; rfl, H2'.out _⟩
      case round =>
        obtain ⟨k, hk, rfl, rfl, hK⟩ := hrel
        clear H2' M0
        by_cases hkl : k < len
        · obtain ⟨b', o', y, hp, d0, hy⟩ := C.out wr hK.out.old k hkl
          simp only [Option.some.injEq, Addr.mk.injEq, and_true] at hp
          obtain ⟨rfl, rfl⟩ := hp
          have j1 : (0 : Int) ≤ (k : Int) := by omega
          have j2 : (k : Int) < (len : Int) := by omega
          have j3 : (i : Int) + 1 ≤ (cap : Int) := by have := HC.out; have := HL.out; omega
          have j4 : (0 : Int) ≤ (i : Int) + 1 := by omega
          have j5 : IntKind.i64.wrap ((i : Int) + 1) = ((i + 1 : Nat) : Int) := by simp only [IntKind.wrap_i64]; omega
          have Q8 : Hid (∀ q, Calls Try.prog 8 #[.int .i64 c, .slice (some ⟨b, o, none⟩) (i + 1) cap, .int .u64 (y : Int)] (wr.drewN q) fun e w' => e = .returned (.int .i64 (EE y : Int)) ∧ ∃ m, w' = (wr.drewN q).drewN m) := fun q => T8.out _ y (hK.out.drewN q).old
          have D0 : Hid (∀ V, Hid (Tst w X lim l (i + 1) V) → ∀ (j z : Nat), l[j]? = some z → V.cell? ⟨b, o + j, none⟩ = some (.int .u64 (z : Int))) := fun V hV j z hz => by
            have hj := (List.getElem?_eq_some_iff.1 hz).1
            obtain ⟨b', o', z', hp, hd, hz'⟩ := C.out V hV.out.old j (by rw [← HL.out]; exact hj)
            simp only [Option.some.injEq, Addr.mk.injEq, and_true] at hp
            obtain ⟨rfl, rfl⟩ := hp
            rw [hz] at hz'
            obtain rfl := Option.some.inj hz'.out
            exact hd
          have HK : Hid (∀ q, Hid (Tst w X lim l (i + 1) (wr.drewN q))) := fun q => hK.out.drewN q
          clear hK
          go_wp2_with fail
          go_quiet (first | (go_at_call 8; exact Calls.quiet_of (Q8.out _)))
          clear Q8
          have hne : ((EE y : Int) != (EE y : Int)) = false := by simp
          go_wp2_with fail
          refine (T9.out _ y (HK.out _)).mono ?_
          rintro e w3 ⟨rfl, H3⟩
          clear d0 HK
          obtain ⟨NO, hNO⟩ : ∃ NO : Nat → Bool, noneOf y l = NO := ⟨_, rfl⟩
          have NO0 : NO 0 = true := by rw [← hNO]; exact noneOf_zero y l
          have NOS : Hid (∀ (j z : Nat), l[j]? = some z → NO (j + 1) = (NO j && (z != y))) := fun j z hz => by rw [← hNO]; exact noneOf_next y l j z hz
          have MK := Lib.hid (MS.out k y hy.out)
          rw [hNO] at MK
          clear hNO
          go_wp2_with fail
          go_loopw [11, 12] (fun a q wr => ∃ j : Nat, j ≤ k ∧ q = .int .i64 j ∧ a = .bool (NO j) ∧ Hid (Tst w X lim l (i + 1) wr)) (fun _ q _ => k - (intOf q).toNat)
          case atStart => exact ⟨0, by omega, rfl, by rw [NO0], H3⟩
          case round =>
            obtain ⟨j, hj, rfl, rfl, hJ⟩ := hrel
            clear H3 NO0
            by_cases hjk : j < k
            · obtain ⟨b9, o9, z, hp9, hd9, hz⟩ := C.out wr hJ.out.old j (by omega)
              clear hp9 hd9
              have d1 := D0.out wr hJ j z hz.out
              have d2 := D0.out wr hJ k y hy.out
              have N := Lib.hid (NOS.out j z hz.out)
              have i1 : (0 : Int) ≤ (j : Int) := by omega
              have i2 : (j : Int) < (len : Int) := by omega
              have i3 : (j : Int) < (k : Int) := by omega
              have HJ : Hid (∀ q, Hid (Tst w X lim l (i + 1) (wr.drewN q))) := fun q => hJ.out.drewN q
              clear hJ hz MK NOS D0 C T8 T9 T10 MS MB HR HC HL
              cases hno : NO j
              · rw [hno] at N
                go_wp2_with fail
                go_quiet (fail)
                go_wp2
                go_roundw
                case rel => exact ⟨j + 1, by omega, by simp, by rw [N.out]; rfl, HJ.out _⟩
                case measure => simp [intOf]; omega
              · rw [hno] at N
                by_cases hzy : z = y
                · have g1 : ((z : Int) != (y : Int)) = false := by simp [hzy]
                  have N2 : Hid (NO (j + 1) = false) := by
                    show NO (j + 1) = false
                    rw [N.out]; simp [hzy]
                  go_wp2_with fail
                  go_quiet (fail)
                  go_wp2
                  go_roundw
                  case rel => exact ⟨j + 1, by omega, by simp, by rw [N2.out], HJ.out _⟩
                  case measure => simp [intOf]; omega
                · have g1 : ((z : Int) != (y : Int)) = true := by simp; omega
                  have g2 : ¬ (z : Int) = (y : Int) := by omega
                  have N2 : Hid (NO (j + 1) = true) := by
                    show NO (j + 1) = true
                    rw [N.out]; simp [hzy]
                  clear hzy
                  go_wp2_with fail
                  go_quiet (fail)
                  go_wp2
                  go_roundw
                  case rel => exact ⟨j + 1, by omega, by simp, by rw [N2.out], HJ.out _⟩
                  case measure => simp [intOf]; omega
            · obtain rfl : j = k := by omega
              have HJ := hJ
              have hM := MB.out j
              clear hJ NOS D0 C T8 T9 T10 MS MB HR HC HL
              have M := MK.out
              by_cases h0 : 0 < EE y
              · have g0 : (0 : Int) < (EE y : Int) := by omega
                cases hno : NO j
                · rw [hno, if_neg (fun h => absurd h.2 (by decide))] at M
                  have M2 := Lib.hid M
                  clear M MK
                  go_wp2_with fail
                  go_roundw
                  case rel => exact ⟨j + 1, by omega, by simp, by rw [M2.out]; rfl, HJ⟩
                  case measure => simp [intOf]; omega
                · rw [hno, if_pos ⟨h0, rfl⟩] at M
                  have M2 := Lib.hid M
                  have w6 : IntKind.i64.wrap ((MN j : Int) + 1) = (MN j : Int) + 1 := by simp only [IntKind.wrap_i64]; omega
                  clear M MK
                  go_wp2_with fail
                  go_roundw
                  case rel => exact ⟨j + 1, by omega, by simp, by rw [M2.out]; simp, HJ⟩
                  case measure => simp [intOf]; omega
              · have g0 : ¬ (0 : Int) < (EE y : Int) := by omega
                rw [if_neg (fun h => h0 h.1)] at M
                have M2 := Lib.hid M
                clear M MK
                go_wp2_with fail
                go_roundw
                case rel => exact ⟨j + 1, by omega, by simp, by rw [M2.out]; rfl, HJ⟩
                case measure => simp [intOf]; omega
        · obtain rfl : k = len := by omega
          have T := Lib.hid (T10.out wr hK)
          have hne : ((MN k : Int) != (MN k : Int)) = false := by simp
          clear C T8 T9 T10 MS MB HR HC HL
          go_wp2_with fail
          refine T.out.mono ?_
          rintro e w5 ⟨rfl, e5⟩
          obtain rfl : wr = w5 := e5.symm
          go_wp2_with fail
          go_roundw
          case rel => exact ⟨i + 1, by omega, by simp, hK⟩
          case measure => simp [intOf]; omega
    · obtain rfl : i = len := by omega
      have C11 := Lib.hid (hI.out.clear11 HX.out)
      clear hI C
      go_wp2_with fail
      refine C11.out.mono ?_
      rintro e w2 ⟨rfl, H0⟩
      clear C11
      have K7 : Hid (Calls Try.prog 7 #[.pointer (some ⟨X, 0, none⟩)] w2 fun e B => e = .returned (.int .i64 0) ∧ w2 = B) := by
        have := H0.out.count7 hlim.1 (Nat.zero_le _)
        rw [Nat.zero_mod] at this
        exact this.mono fun e B ⟨he, hB⟩ => ⟨he, hB.symm⟩
      have K10 : Hid (Calls Try.prog 10 #[.pointer (some ⟨X, 0, none⟩)] w2 fun e B => e = .returned (.int .i64 0) ∧ w2 = B) := by
        have := H0.out.len10
        have e0 : ∀ l : List Nat, (fs (fun k => decide (0 < estE k (runE lim []))) l).length = 0 := fun l => by
          have h1 := fs_mem (fun k => decide (0 < estE k (runE lim []))) l
          cases hf : fs (fun k => decide (0 < estE k (runE lim []))) l with
          | nil => rfl
          | cons y ys =>
            have h2 := (h1 y l.length (Nat.le_refl _)).1 (by rw [List.take_length, hf]; exact List.mem_cons_self)
            simp [runE, es0, estE] at h2
        rw [List.take_zero, e0 l] at this
        exact this.mono fun e B ⟨he, hB⟩ => ⟨he, hB.symm⟩
      have N12 : Hid (Calls Try.prog 12 #[.pointer none, .slice p i cap] w2 fun e B => e = .returned (.tuple #[]) ∧ w2 = B) := by
        have := none12 (W := w2) p cap l (fun h0 => by
          obtain ⟨b', o', hp, _, hi⟩ := HR.out h0
          exact ⟨b', o', hp, trivial, fun q hq => ⟨(H0.out.old.cell (p := ⟨b', o' + q, none⟩) (World.block_lt_of_cell? w ⟨b', o' + q, none⟩ (hi q hq).1)).trans (hi q hq).1, (hi q hq).2⟩⟩) (by rw [HL.out]; omega)
        rw [HL.out] at this
        exact this.mono fun e B ⟨he, hB⟩ => ⟨he, hB.symm⟩
      have AW := Lib.hid (awake_any w2)
      have HO := Lib.hid H0.out.old
      clear H0 HR HC HL
      go_wp2_with fail
      refine (none6 1 w2).mono ?_
      rintro e w3 ⟨rfl, e3⟩
      obtain rfl : w2 = w3 := e3.symm
      go_wp2_with fail
      refine N12.out.mono ?_
      rintro e w3 ⟨rfl, e3⟩
      obtain rfl : w2 = w3 := e3
      go_wp2_with fail
      refine (none11 w2).mono ?_
      rintro e w3 ⟨rfl, e3⟩
      obtain rfl : w2 = w3 := e3.symm
      go_wp2_with (first
        | (go_at_call_of 7 (Value.pointer (some ⟨X, 0, none⟩)); refine K7.out.mono ?_; rintro e w3 ⟨rfl, e3⟩; obtain rfl : w2 = w3 := e3)
        | (go_at_call_of 10 (Value.pointer (some ⟨X, 0, none⟩)); refine K10.out.mono ?_; rintro e w3 ⟨rfl, e3⟩; obtain rfl : w2 = w3 := e3)
        | (go_at_call 9; refine (none9 1 w2).mono ?_; rintro e w3 ⟨rfl, e3⟩; obtain rfl : w2 = w3 := e3.symm)
        | (go_at_call 7; refine (none7 w2).mono ?_; rintro e w3 ⟨rfl, e3⟩; obtain rfl : w2 = w3 := e3.symm)
        | (go_at_call 10; refine (none10 w2).mono ?_; rintro e w3 ⟨rfl, e3⟩; obtain rfl : w2 = w3 := e3.symm)
        | (go_at_call 4; refine AW.out.mono ?_; rintro e w4 ⟨rfl, hb4⟩))
      go_ret
      exact ⟨rfl, HO.out.trans (hb4.out.mono HO.out.size)⟩
theorem tells_walk (c : Int) (p : Option Addr) (cap : Nat) (l : List Nat) (w : World) (hcap : l.length ≤ cap) (hr : Ks (fun _ => True) w p l) :
    Calls Try.prog 3 #[.int .i64 c, .slice p l.length cap] w fun e B => e = .returned (.bool true) ∧ Below w.heap.size w B := by
  by_cases hl : l.length ≤ 40
  · exact tells_some c p cap l w hl hcap hr
  · have h : (40 : Int) < (l.length : Int) := by omega
    have AW := Lib.hid (awake_any w)
    clear hr hcap hl
    generalize l.length = len at *
    go_enter Try.func3, Try.ntmps3
    go_wp2_with fail
    refine AW.out.mono ?_
    rintro e w1 ⟨rfl, hb⟩
    go_wp2
    go_ret
    exact ⟨rfl, hb.out⟩
end Go.Proofs.Ytnhpcjiieagjnaa.rk
