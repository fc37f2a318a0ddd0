/-
  Exact's own functions by their contracts: New, Add, Estimate, Count, Len.
-/
import Derived.Test.YtnhpcjiieagjnaaDoorRkAge
namespace Go.Proofs.YtnhpcjiieagjnaaDoor.rk
open Go.RowKit
namespace Xg
variable {W B : World} {X g lim : Nat} {t : Tr} {e : Ez}
/-- another tree. -/
theorem setTree {g2 : Nat} {t2 : Tr} {e2 : Ez} (h : Xg W X g t lim e) (ht : At W g2 t2) (hr : Rep t2.list e2) (hl : Low e2) (hc : e2.cnt = e.cnt) : Xg (W.setCell ⟨X, 0, none⟩ (.pointer (some ⟨g2, 0, none⟩))) X g2 t2 lim e2 :=
  ⟨by rw [heap_set h.box, hc]; rfl, tree_set ht h.box 0 _, hr, hl⟩
/-- another count. -/
theorem setCnt (h : Xg W X g t lim e) (c : Nat) : Xg (W.setCell ⟨X, 2, none⟩ (.int .i64 (c : Int))) X g t lim ⟨e.came, e.num, c⟩ :=
  ⟨by rw [heap_set h.box]; rfl, tree_set h.tree h.box 2 _, ⟨h.rep.val, h.rep.pos, h.rep.est⟩, h.low⟩
theorem keepX (B : World) (i : Nat) (u : Value) : Keep (fun k => k ≠ X) B (B.setCell ⟨X, i, none⟩ u) := Keep.setCell _ _ _ fun h => h rfl
theorem num15 (h : Xg W X g t lim e) (x : Nat) : ((look (x : Int) t.list).getD kn0).n ≤ 15 := by
  rw [h.rep.num x]; exact h.low x
theorem len_any (h : Xg W X g t lim e) : Calls Tryd.prog 18 #[.pointer (some ⟨X, 0, none⟩)] W fun r B => r = .returned (.int .i64 (t.list.length : Int)) ∧ B = W := by
  have c0 := h.c0
  have L := Lib.hid (len_some h.tree)
  clear h
  generalize t.list.length = n at *
  go_enter Tryd.func18, Tryd.ntmps18
  go_wp2_with fail
  refine L.out.mono ?_
  rintro r w1 ⟨rfl, rfl⟩
  go_wp2
  go_ret
  exact ⟨rfl, rfl⟩
theorem count_any (h : Xg W X g t lim e) : Calls Tryd.prog 13 #[.pointer (some ⟨X, 0, none⟩)] W fun r B => r = .returned (.int .i64 (e.cnt : Int)) ∧ B = W := by
  have c2 := h.c2
  clear h
  go_enter Tryd.func13, Tryd.ntmps13
  go_wp2
  go_ret
  exact ⟨rfl, rfl⟩
set_option maxHeartbeats 1000000 in
theorem est_any (h : Xg W X g t lim e) (x : Nat) : Calls Tryd.prog 11 #[.pointer (some ⟨X, 0, none⟩), .int .u64 (x : Int)] W fun r B => r = .returned (.int .i64 (estE x e : Int)) ∧ Below W.heap.size W B := by
  have c0 := h.c0
  have h15 := h.num15 x
  have he := h.rep.estOf x
  have T := get_some h.tree (x : Int)
  obtain ⟨v, hv⟩ : ∃ v, (look (x : Int) t.list).getD kn0 = v := ⟨_, rfl⟩
  obtain ⟨b, hb⟩ : ∃ b, (look (x : Int) t.list).isSome = b := ⟨_, rfl⟩
  rw [hv] at h15 he T
  rw [hb] at T
  have P : Hid (∀ V, Calls Tryd.prog 29 #[kn v] V fun r B => r = .returned (.int .i64 (estE x e : Int)) ∧ Below V.heap.size V B) := fun V => by
    have := estimate_any v h15 V
    rw [he] at this
    exact this
  have T0 := Lib.hid T
  clear h hv hb T h15 he
  generalize estE x e = y at *
  go_enter Tryd.func11, Tryd.ntmps11
  go_wp2_with fail
  refine T0.out.mono ?_
  rintro r w1 ⟨rfl, hb1⟩
  have HB1 := Lib.hid hb1
  clear hb1 T0 c0
  obtain ⟨N, hN⟩ : ∃ N, w1.heap.size = N := ⟨_, rfl⟩
  obtain ⟨W2, hW2⟩ : ∃ W2, w1.alloc (.cells #[.int .i64 0, .bool false] 58) = W2 := ⟨_, rfl⟩
  have k2 : Kb W2 N kn0 := by rw [← hW2, ← hN]; exact Kb.new w1 kn0
  have d0 : W2.cell? ⟨N, 0, none⟩ = some (.int .i64 0) := k2.c0
  have d1 : W2.cell? ⟨N, 1, none⟩ = some (.bool false) := k2.c1
  have f0 := k2.fr 0
  have f1 := k2.fr 1
  obtain ⟨W3, hW3⟩ : ∃ W3, (W2.setCell ⟨N, 0, none⟩ (.int .i64 (v.n : Int))).setCell ⟨N, 1, none⟩ (.bool v.c) = W3 := ⟨_, rfl⟩
  have k3 : Kb W3 N v := by rw [← hW3]; exact k2.set2 v
  have hb3 : Below w1.heap.size w1 W3 := by rw [← hW3, ← hW2]; exact below_set ((Below.refl _ _).alloc (Nat.le_refl _) _) (by omega) _ _
  have e0 := k3.c0
  have e1 := k3.c1
  have Q : Hid (∀ B, Below W3.heap.size W3 B → Below W.heap.size W B) := fun B hB => HB1.out.trans ((hb3.trans (hB.mono hb3.size)).mono HB1.out.size)
  clear k2 k3 hb3
  go_wp2_with fail
  refine (P.out _).mono ?_
  rintro r w4 ⟨rfl, hb4⟩
  go_wp2
  go_ret
  exact ⟨rfl, Q.out _ hb4⟩
/-- what Add leaves. -/
def Added (W : World) (X lim : Nat) (n : Nat) (e : Ez) (C : World) : Prop := ∃ g t, Xg C X g t lim e ∧ Keep (fun k => k ≠ X) W C ∧ t.list.length ≤ n
set_option maxHeartbeats 4000000 in
theorem add_any (h : Xg W X g t lim e) (x : Nat) (hlim : lim ≤ 4096) (hc : e.cnt < lim) (hn : t.list.length ≤ 1000000) : Calls Tryd.prog 9 #[.pointer (some ⟨X, 0, none⟩), .int .u64 (x : Int)] W fun r B => r = .returned (.tuple #[]) ∧ Hid (Added W X lim (t.list.length + 1) (addE lim x e) B) := by
  have c0 := h.c0
  have h15 := h.num15 x
  have T := get_some h.tree (x : Int)
  obtain ⟨v, hv⟩ : ∃ v, (look (x : Int) t.list).getD kn0 = v := ⟨_, rfl⟩
  obtain ⟨b, hb⟩ : ∃ b, (look (x : Int) t.list).isSome = b := ⟨_, rfl⟩
  rw [hv] at h15 T
  rw [hb] at T
  have hrep := h.rep.come x
  rw [hv] at hrep
  obtain ⟨u, hu⟩ : ∃ u, againK v = u := ⟨_, rfl⟩
  rw [hu] at hrep
  have hlow : Low (comeE x e) := fun k => by
    have h1 := h.low k
    rw [come_num]
    split <;> omega
  have AG : Hid (∀ V, Calls Tryd.prog 26 #[kn v] V fun r B => r = .returned (kn u) ∧ Below V.heap.size V B) := fun V => by
    have := again_any v h15 V
    rw [hu] at this
    exact this
  have T0 := Lib.hid T
  -- behind the tree's Put, and the store
  have PU : Hid (∀ V, Hid (Below W.heap.size W V) → Calls Tryd.prog 25 #[.pointer (some ⟨g, 0, none⟩), .int .u64 (x : Int), kn u] V fun r B => ∃ g2, r = .returned (.pointer (some ⟨g2, 0, none⟩)) ∧ B.cell? ⟨X, 0, none⟩ = some (.pointer (some ⟨g, 0, none⟩)) ∧ B.frozen? ⟨X, 0, none⟩ = false ∧ Hid (∃ t2, Xg (B.setCell ⟨X, 0, none⟩ (.pointer (some ⟨g2, 0, none⟩))) X g2 t2 lim (comeE x e) ∧ Keep (fun k => k ≠ X) W (B.setCell ⟨X, 0, none⟩ (.pointer (some ⟨g2, 0, none⟩))) ∧ t2.list.length ≤ t.list.length + 1)) := fun V hV =>
    (tput_some (h.below hV.out).tree (by omega) (x : Int) u).mono fun r B ⟨g2, t2, he, ho⟩ => by
      obtain ⟨q1, q2, q3, _⟩ := ho.out
      have hWB : Below W.heap.size W B := hV.out.trans (q3.mono hV.out.size)
      have hB := h.below hWB
      refine ⟨g2, he, hB.c0, hB.fr 0, t2, hB.setTree q1 (by rw [q2]; exact hrep) hlow rfl, Keep.trans ⟨hWB.os, hWB.tape, hWB.output, hWB.size, fun k hk _ => hWB.block k hk⟩ (keepX B 0 _), ?_⟩
      rw [q2]
      exact ins_len u
  have C0 : Hid (∀ V, Hid (Below W.heap.size W V) → V.cell? ⟨X, 0, none⟩ = some (.pointer (some ⟨g, 0, none⟩))) := fun V hV => (h.below hV.out).c0
  -- behind the count
  have E1 : Hid (∀ C g2 t2, Xg C X g2 t2 lim (comeE x e) → Keep (fun k => k ≠ X) W C → t2.list.length ≤ t.list.length + 1 → C.cell? ⟨X, 2, none⟩ = some (.int .i64 (e.cnt : Int)) ∧ C.frozen? ⟨X, 2, none⟩ = false ∧ (C.setCell ⟨X, 2, none⟩ (.int .i64 ((e.cnt : Int) + 1))).cell? ⟨X, 2, none⟩ = some (.int .i64 ((e.cnt : Int) + 1)) ∧ (C.setCell ⟨X, 2, none⟩ (.int .i64 ((e.cnt : Int) + 1))).cell? ⟨X, 1, none⟩ = some (.int .i64 (lim : Int)) ∧
      Hid (∃ e', Xg (C.setCell ⟨X, 2, none⟩ (.int .i64 ((e.cnt : Int) + 1))) X g2 t2 lim e' ∧ e' = ⟨(comeE x e).came, (comeE x e).num, e.cnt + 1⟩ ∧ Keep (fun k => k ≠ X) W (C.setCell ⟨X, 2, none⟩ (.int .i64 ((e.cnt : Int) + 1))))) := fun C g2 t2 hC hk hl => by
    have h2 := hC.setCnt (e.cnt + 1)
    have e1 : ((e.cnt + 1 : Nat) : Int) = (e.cnt : Int) + 1 := by omega
    have q2 := h2.c2
    have q1 := h2.c1
    rw [e1] at h2 q2 q1
    refine ⟨hC.c2, hC.fr 2, ?_, q1, _, h2, rfl, hk.trans (keepX C 2 _)⟩
    rw [q2]
  clear h hv hb T hrep hlow
  obtain ⟨cnt, hcnt⟩ : ∃ cnt, e.cnt = cnt := ⟨_, rfl⟩
  have HA : Hid (addE lim x e = if cnt + 1 = lim then ⟨fun _ => false, fun k => (comeE x e).num k / 2, 0⟩ else ⟨(comeE x e).came, (comeE x e).num, cnt + 1⟩) := by
    show addE lim x e = _
    unfold addE
    rw [hcnt]
  rw [hcnt] at E1 hc
  -- when the count is full
  have AGE : Hid (∀ C g2 t2 e', Xg C X g2 t2 lim e' → e' = ⟨(comeE x e).came, (comeE x e).num, cnt + 1⟩ → Keep (fun k => k ≠ X) W C → t2.list.length ≤ t.list.length + 1 → cnt + 1 = lim → Calls Tryd.prog 27 #[.pointer (some ⟨X, 0, none⟩)] C fun r B => r = .returned (.tuple #[]) ∧ Hid (Added W X lim (t.list.length + 1) (addE lim x e) B)) := fun C g2 t2 e' h1 h2 h3 h4 h5 =>
    (age_any h1).mono fun r B ⟨he, g3, t3, ho⟩ => by
      obtain ⟨q1, q2, q3⟩ := ho.out
      subst h2
      refine ⟨he, g3, t3, ?_, h3.trans q2, by omega⟩
      rw [HA.out, if_pos h5]
      exact q1
  have STAY : Hid (∀ C g2 t2 e', Xg C X g2 t2 lim e' → e' = ⟨(comeE x e).came, (comeE x e).num, cnt + 1⟩ → Keep (fun k => k ≠ X) W C → t2.list.length ≤ t.list.length + 1 → ¬ cnt + 1 = lim → Added W X lim (t.list.length + 1) (addE lim x e) C) := fun C g2 t2 e' h1 h2 h3 h4 h5 => by
    subst h2
    refine ⟨g2, t2, ?_, h3, h4⟩
    rw [HA.out, if_neg h5]
    exact h1
  clear HA hcnt
  go_enter Tryd.func9, Tryd.ntmps9
  go_wp2_with fail
  refine T0.out.mono ?_
  rintro r w1 ⟨rfl, hb1⟩
  have HB1 := Lib.hid hb1
  clear hb1 T0 c0
  obtain ⟨N, hN⟩ : ∃ N, w1.heap.size = N := ⟨_, rfl⟩
  obtain ⟨W2, hW2⟩ : ∃ W2, w1.alloc (.cells #[.int .i64 0, .bool false] 58) = W2 := ⟨_, rfl⟩
  have k2 : Kb W2 N kn0 := by rw [← hW2, ← hN]; exact Kb.new w1 kn0
  have d0 : W2.cell? ⟨N, 0, none⟩ = some (.int .i64 0) := k2.c0
  have d1 : W2.cell? ⟨N, 1, none⟩ = some (.bool false) := k2.c1
  have f0 := k2.fr 0
  have f1 := k2.fr 1
  obtain ⟨W3, hW3⟩ : ∃ W3, (W2.setCell ⟨N, 0, none⟩ (.int .i64 (v.n : Int))).setCell ⟨N, 1, none⟩ (.bool v.c) = W3 := ⟨_, rfl⟩
  have k3 : Kb W3 N v := by rw [← hW3]; exact k2.set2 v
  have hb3 : Below w1.heap.size w1 W3 := by rw [← hW3, ← hW2]; exact below_set ((Below.refl _ _).alloc (Nat.le_refl _) _) (by omega) _ _
  have HB3 : Hid (Below W.heap.size W W3) := HB1.out.trans (hb3.mono HB1.out.size)
  have e0 := k3.c0
  have e1 := k3.c1
  have HK3 := Lib.hid k3
  have z0 := C0.out _ HB3
  have KB : Hid (∀ B, Below W3.drew.heap.size W3.drew B → Kb B N v) := fun B hB => k3.below ((Below.refl _ W3).drew.trans hB)
  have BB : Hid (∀ B, Below W3.drew.heap.size W3.drew B → Hid (Below W.heap.size W B)) := fun B hB => HB3.out.trans (((Below.refl _ W3).drew.trans hB).mono HB3.out.size)
  clear k2 k3 hb3 HB1
  go_wp2_with fail
  clear hW3 hW2 d0 d1 f0 f1
  go_region_with (first
    | (go_at_call 26; refine (AG.out _).mono ?_; rintro r w4 ⟨rfl, hb4⟩; have HB4 := BB.out _ hb4; have z1 := C0.out _ HB4; have y0 := (KB.out _ hb4).c0; have y1 := (KB.out _ hb4).c1; clear hb4)
    | (go_at_call 25; refine (PU.out _ HB4).mono ?_; rintro r w5 ⟨g2, rfl, x0, x1, HQ⟩))
  all_goals
    clear AG PU C0 KB BB
    obtain ⟨t2, q1, q2, q3⟩ := HQ.out
    obtain ⟨a1, a2, a3, a4, HE⟩ := E1.out _ g2 t2 q1 q2 q3
    have HQ3 := Lib.hid q3
    have hw : IntKind.i64.wrap ((cnt : Int) + 1) = (cnt : Int) + 1 := by simp only [IntKind.wrap_i64]; omega
    clear q1 q2 q3 E1 HQ
    obtain ⟨C, hC⟩ : ∃ C, w5.setCell ⟨X, 0, none⟩ (.pointer (some ⟨g2, 0, none⟩)) = C := ⟨_, rfl⟩
    rw [hC] at a1 a2 a3 a4 HE
    by_cases hl : cnt + 1 = lim
    · have hd : ((cnt : Int) + 1 == (lim : Int)) = true := by simp; omega
      have P : Hid (∀ q, Calls Tryd.prog 27 #[.pointer (some ⟨X, 0, none⟩)] ((C.setCell ⟨X, 2, none⟩ (.int .i64 ((cnt : Int) + 1))).drewN q) fun r B => r = .returned (.tuple #[]) ∧ Hid (Added W X lim (t.list.length + 1) (addE lim x e) B)) := fun q => by
        obtain ⟨e', b1, b2, b3⟩ := HE.out
        exact AGE.out _ g2 t2 e' (b1.drewN q) b2 (b3.trans (Keep.drewN _ _ _)) HQ3.out hl
      clear HE AGE STAY hl hc hlim
      go_wp2_with fail
      go_quiet (fail)
      go_wp2_with fail
      refine (P.out _).mono ?_
      rintro r w6 ⟨rfl, ho⟩
      go_wp2
      go_end0
      exact ⟨rfl, ho⟩
    · have hd : ((cnt : Int) + 1 == (lim : Int)) = false := by simp; omega
      have P : Hid (∀ q, Added W X lim (t.list.length + 1) (addE lim x e) ((C.setCell ⟨X, 2, none⟩ (.int .i64 ((cnt : Int) + 1))).drewN q)) := fun q => by
        obtain ⟨e', b1, b2, b3⟩ := HE.out
        exact STAY.out _ g2 t2 e' (b1.drewN q) b2 (b3.trans (Keep.drewN _ _ _)) HQ3.out hl
      clear HE AGE STAY hl hc hlim
      go_wp2_with fail
      go_quiet (fail)
      go_wp2
      go_end0
      exact ⟨rfl, P.out _⟩
end Xg
end Go.Proofs.YtnhpcjiieagjnaaDoor.rk
