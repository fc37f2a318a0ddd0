/-
  The document's Get, Rank and Same (cortadoref08), and the law's helper stands, by contracts.
-/
import Derived.Test.YtaoiadejafaleaaRefs
import Derived.Test.YtaoiadejafaleaaAsk
import Derived.Test.YtaoiadejafaleaaMake
namespace Go.Proofs.Ytaoiadejafaleaa
open Go.RowKit
theorem drop_one {l : List (Int × Int)} {i : Nat} (h : i < l.length) : l.drop i = (l[i].1, l[i].2) :: l.drop (i + 1) := List.drop_eq_getElem_cons h
set_option maxRecDepth 100000 in
set_option maxHeartbeats 1000000 in
theorem rget_any {w : World} {v : Value} {l : List (Int × Int)} (h : Es w v l) (hn : l.length ≤ 1000000) (k : Int) :
    Calls Try.prog 14 #[v, .int .i64 k] w fun e B => e = .returned (.tuple #[.int .i64 ((look k l).getD 0), .bool (look k l).isSome]) ∧ B = w := by
  obtain ⟨a, cap, rfl, hc, ha⟩ := h
  have HA := Lib.hid ha
  clear ha
  go_enter Try.func14, Try.ntmps14
  go_wp2_with fail
  go_loopw [6] (fun i wr => wr = w ∧ ∃ j : Nat, j ≤ l.length ∧ i = .int .i64 j ∧ Hid (look k l = look k (l.drop j))) (fun i _ => l.length - (intOf i).toNat)
  case atStart => exact ⟨rfl, 0, Nat.zero_le _, rfl, rfl⟩
  case round =>
    obtain ⟨rfl, j, hj, rfl, hX⟩ := hrel
    by_cases hlt : j < l.length
    · obtain ⟨b, o, rfl, hcell⟩ := HA.out (by omega)
      obtain ⟨c0, c1⟩ := hcell j hlt
      have T := drop_one hlt
      obtain ⟨e0, he0⟩ : ∃ e0, l[j].1 = e0 := ⟨_, rfl⟩
      obtain ⟨e1, he1⟩ : ∃ e1, l[j].2 = e1 := ⟨_, rfl⟩
      rw [he0] at c0 T
      rw [he1] at c1 T
      have Y := hX.out
      rw [T, look_cons] at Y
      clear hcell T he0 he1 hX
      by_cases hk : e0 = k
      · rw [if_pos hk] at Y
        have YY := Lib.hid Y
        clear Y
        subst hk
        go_wp2
        go_ret2
        exact ⟨by rw [YY.out]; rfl, rfl⟩
      · rw [if_neg hk] at Y
        have YY := Lib.hid Y
        clear Y
        go_wp2
        go_roundw
        case rel => exact ⟨trivial, j + 1, by omega, by simp, YY⟩
        case measure => simp [intOf]; omega
    · obtain rfl : j = l.length := by omega
      have YY : Hid (look k l = none) := by rw [hX.out, List.drop_length]; exact rfl
      clear hX
      go_wp2
      go_ret2
      exact ⟨by rw [YY.out]; rfl, rfl⟩
set_option maxRecDepth 100000 in
set_option maxHeartbeats 1000000 in
theorem rrank_any {w : World} {v : Value} {l : List (Int × Int)} (h : Es w v l) (hu : Up l) (hn : l.length ≤ 1000000) (k : Int) :
    Calls Try.prog 16 #[v, .int .i64 k] w fun e B => e = .returned (.tuple #[.int .i64 ((lo k l).length : Int), .bool (look k l).isSome]) ∧ B = w := by
  have G := Lib.hid (rget_any h hn k)
  obtain ⟨a, cap, rfl, hc, ha⟩ := h
  have HA := Lib.hid ha
  have HU := Lib.hid hu
  clear ha hu
  go_enter Try.func16, Try.ntmps16
  go_wp2_with fail
  go_loopw [6] (fun i wr => wr = w ∧ ∃ j : Nat, j ≤ l.length ∧ i = .int .i64 j ∧ Hid ((lo k l).length = j + (lo k (l.drop j)).length)) (fun i _ => l.length - (intOf i).toNat)
  case atStart => exact ⟨rfl, 0, Nat.zero_le _, rfl, by simp [Hid]⟩
  case round =>
    obtain ⟨rfl, j, hj, rfl, hX⟩ := hrel
    by_cases hlt : j < l.length
    · obtain ⟨b, o, rfl, hcell⟩ := HA.out (by omega)
      obtain ⟨c0, c1⟩ := hcell j hlt
      have T := drop_one hlt
      obtain ⟨e0, he0⟩ : ∃ e0, l[j].1 = e0 := ⟨_, rfl⟩
      obtain ⟨e1, he1⟩ : ∃ e1, l[j].2 = e1 := ⟨_, rfl⟩
      rw [he0] at c0 T
      rw [he1] at c1 T
      have Y := hX.out
      have hup : Up (l.drop j) := List.Pairwise.sublist (List.drop_sublist _ _) HU.out
      rw [T] at hup
      rw [T, lo_cons] at Y
      clear hcell T he0 he1 hX
      by_cases hk : e0 < k
      · rw [if_pos hk, List.length_cons] at Y
        have YY : Hid ((lo k l).length = j + 1 + (lo k (l.drop (j + 1))).length) := Lib.hid (by omega)
        clear Y hup
        go_wp2
        go_roundw
        case rel => exact ⟨trivial, j + 1, by omega, by simp, YY⟩
        case measure => simp [intOf]; omega
      · rw [if_neg hk, lo_none (xs := l.drop (j + 1)) (fun a ha => by have := hup.cons.2 a ha; simp at this; omega)] at Y
        have YY := Lib.hid Y
        clear Y hup
        go_wp2_with fail
        refine G.out.mono ?_
        rintro e w1 ⟨rfl, rfl⟩
        go_wp2
        go_ret2
        exact ⟨by rw [YY.out]; simp, rfl⟩
    · obtain rfl : j = l.length := by omega
      have YY : Hid ((lo k l).length = l.length) := by rw [hX.out, List.drop_length]; simp [lo, Hid]
      clear hX
      go_wp2_with fail
      refine G.out.mono ?_
      rintro e w1 ⟨rfl, rfl⟩
      go_wp2
      go_ret2
      exact ⟨by rw [YY.out]; simp, rfl⟩
set_option maxRecDepth 100000 in
set_option maxHeartbeats 1000000 in
theorem same_any {w : World} {v v' : Value} {l : List (Int × Int)} (h : Es w v l) (h' : Es w v' l) (hn : l.length ≤ 1000000) :
    Calls Try.prog 20 #[v, v'] w fun e B => e = .returned (.bool true) ∧ ∃ m, B = w.drewN m := by
  obtain ⟨a, cap, rfl, hc, ha⟩ := h
  obtain ⟨a', cap', rfl, hc', ha'⟩ := h'
  have HA := Lib.hid ha
  have HB := Lib.hid ha'
  clear ha ha'
  go_enter Try.func20, Try.ntmps20
  go_wp2_with fail
  go_loopw [5] (fun i wr => (∃ m, wr = w.drewN m) ∧ ∃ j : Nat, j ≤ l.length ∧ i = .int .i64 j) (fun i _ => l.length - (intOf i).toNat)
  case atStart => exact ⟨⟨0, rfl⟩, 0, Nat.zero_le _, rfl⟩
  case round =>
    obtain ⟨⟨m, rfl⟩, j, hj, rfl⟩ := hrel
    by_cases hlt : j < l.length
    · obtain ⟨b, o, rfl, hcell⟩ := HA.out (by omega)
      obtain ⟨b', o', rfl, hcell'⟩ := HB.out (by omega)
      obtain ⟨c0, c1⟩ := hcell j hlt
      obtain ⟨d0, d1⟩ := hcell' j hlt
      obtain ⟨e0, he0⟩ : ∃ e0, l[j].1 = e0 := ⟨_, rfl⟩
      obtain ⟨e1, he1⟩ : ∃ e1, l[j].2 = e1 := ⟨_, rfl⟩
      rw [he0] at c0 d0
      rw [he1] at c1 d1
      clear hcell hcell' he0 he1
      obtain ⟨W, hW⟩ : ∃ W, w.drewN m = W := ⟨_, rfl⟩
      have c0' : W.cell? ⟨b, o + j * 2, none⟩ = some (.int .i64 e0) := by rw [← hW]; exact c0
      have c1' : W.cell? ⟨b, o + j * 2 + 1, none⟩ = some (.int .i64 e1) := by rw [← hW]; exact c1
      have d0' : W.cell? ⟨b', o' + j * 2, none⟩ = some (.int .i64 e0) := by rw [← hW]; exact d0
      have d1' : W.cell? ⟨b', o' + j * 2 + 1, none⟩ = some (.int .i64 e1) := by rw [← hW]; exact d1
      rw [hW]
      have HW : Hid (∃ m, W = w.drewN m) := ⟨m, hW.symm⟩
      clear c0 c1 d0 d1 hW
      go_wp2_with fail
      go_quiet (fail)
      go_wp2
      go_roundw
      case rel => exact ⟨drewN_trans HW.out _, j + 1, by omega, by simp⟩
      case measure => simp [intOf]; omega
    · obtain rfl : j = l.length := by omega
      go_wp2
      go_ret
      exact ⟨rfl, _, rfl⟩
theorem lo_at {l : List (Int × Int)} (h : Up l) {i : Nat} (hi : i < l.length) : (lo l[i].1 l).length = i ∧ look l[i].1 l = some l[i].2 := by
  have e : l = l.take i ++ l[i] :: l.drop (i + 1) := by rw [← List.drop_eq_getElem_cons hi, List.take_append_drop]
  have h' := h
  rw [e] at h'
  have h1 := (sides_at h').1
  have h2 := look_at h'
  rw [← e] at h1 h2
  exact ⟨by rw [h1, List.length_take]; omega, h2⟩
set_option maxRecDepth 100000 in
set_option maxHeartbeats 4000000 in
theorem stands_some {w : World} {g : Nat} {t : Tr} (h : At w g t) {v : Value} (hv : Es w v t.list) :
    Calls Try.prog 17 #[.pointer (some ⟨g, 0, none⟩), v] w fun e B => e = .returned (.bool true) ∧ ∃ m, B = w.drewN m := by
  obtain ⟨a, cap, rfl, hc, ha⟩ := hv
  have HA := Lib.hid ha
  have hlen := h.fits
  have X := Lib.hid h
  clear ha h
  go_enter Try.func17, Try.ntmps17
  go_wp2_with fail
  go_loopw [5] (fun i wr => (∃ m, wr = w.drewN m) ∧ ∃ j : Nat, j ≤ t.list.length ∧ i = .int .i64 j) (fun i _ => t.list.length - (intOf i).toNat)
  case atStart => exact ⟨⟨0, rfl⟩, 0, Nat.zero_le _, rfl⟩
  case round =>
    obtain ⟨⟨m, rfl⟩, j, hj, rfl⟩ := hrel
    by_cases hlt : j < t.list.length
    · obtain ⟨b, o, rfl, hcell⟩ := HA.out (by omega)
      obtain ⟨c0, c1⟩ := hcell j hlt
      have G1 := at_in (X.out.drewN m) j hlt
      obtain ⟨r1, r2⟩ := lo_at X.out.up hlt
      obtain ⟨e0, he0⟩ : ∃ e0, t.list[j].1 = e0 := ⟨_, rfl⟩
      obtain ⟨e1, he1⟩ : ∃ e1, t.list[j].2 = e1 := ⟨_, rfl⟩
      rw [he0] at c0 G1 r1 r2
      rw [he1] at c1 G1 r2
      have G2 : Hid (∀ q, Calls Try.prog 15 #[.pointer (some ⟨g, 0, none⟩), .int .i64 e0] (w.drewN q) fun e w' => e = .returned (.tuple #[.int .i64 (j : Int), .bool true]) ∧ ∃ m, w' = (w.drewN q).drewN m) := fun q => by
        have := rank_some (X.out.drewN q) e0
        rw [r1, r2] at this
        exact this
      have H1 := Lib.hid G1
      have C : Hid (∀ q, (w.drewN q).cell? ⟨b, o + j * 2, none⟩ = some (.int .i64 e0) ∧ (w.drewN q).cell? ⟨b, o + j * 2 + 1, none⟩ = some (.int .i64 e1)) := fun q => ⟨c0, c1⟩
      clear hcell he0 he1 G1 r1 r2 c0 c1
      go_wp2_with fail
      refine H1.out.mono ?_
      rintro e w1 ⟨rfl, m1, hm1⟩
      rw [World.drewN_drewN] at hm1
      subst hm1
      obtain ⟨c0, c1⟩ := C.out (m + m1)
      go_wp2_with fail
      refine (G2.out _).mono ?_
      rintro e w1 ⟨rfl, m2, hm2⟩
      rw [World.drewN_drewN] at hm2
      subst hm2
      obtain ⟨d0, d1⟩ := C.out (m + m1 + m2)
      clear c0 c1
      go_wp2
      go_roundw
      case rel => exact ⟨⟨_, rfl⟩, j + 1, by omega, by simp⟩
      case measure => simp [intOf]; omega
    · obtain rfl : j = t.list.length := by omega
      have G1 : Hid (∀ q, Calls Try.prog 24 #[.pointer (some ⟨g, 0, none⟩), .int .i64 (t.list.length : Int)] (w.drewN q) fun e w' => e = .returned (.tuple #[.int .i64 0, .int .i64 0, .bool false]) ∧ ∃ m, w' = (w.drewN q).drewN m) := fun q => at_out (X.out.drewN q) _ (by omega) (by omega) (.inr (Int.le_refl _))
      have G2 : Hid (∀ q, Calls Try.prog 24 #[.pointer (some ⟨g, 0, none⟩), .int .i64 (-1)] (w.drewN q) fun e w' => e = .returned (.tuple #[.int .i64 0, .int .i64 0, .bool false]) ∧ ∃ m, w' = (w.drewN q).drewN m) := fun q => at_out (X.out.drewN q) _ (by omega) (by omega) (.inl (by omega))
      have G3 : Hid (∀ q, Calls Try.prog 25 #[.pointer (some ⟨g, 0, none⟩)] (w.drewN q) fun e w' => e = .returned (.int .i64 (t.list.length : Int)) ∧ w' = w.drewN q) := fun q => len_some (X.out.drewN q)
      clear HA X
      generalize t.list.length = n at *
      go_wp2_with fail
      refine (G1.out _).mono ?_
      rintro e w1 ⟨rfl, m1, hm1⟩
      rw [World.drewN_drewN] at hm1
      subst hm1
      go_wp2_with fail
      refine (G2.out _).mono ?_
      rintro e w1 ⟨rfl, m2, hm2⟩
      rw [World.drewN_drewN] at hm2
      subst hm2
      go_wp2_with fail
      refine (G3.out _).mono ?_
      rintro e w1 ⟨rfl, rfl⟩
      go_wp2
      go_ret
      exact ⟨by simp, _, rfl⟩
end Go.Proofs.Ytaoiadejafaleaa
