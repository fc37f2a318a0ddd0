/-
  behind, All and From of a tree of ints, and the function that they return: keys and things in order, but for the first ones, as long as one asks; of no tree nothing.
-/
import Derived.Test.YtnhpcjiieagjnaaDoorRkTell
namespace Go.Proofs.YtnhpcjiieagjnaaDoor.rk
open Go.RowKit Go.Shelf
open Tr (node)
/-- p leads to a tree with the parts t, or to none. -/
def Wh (w : World) (p : Option Addr) (t : Tr) : Prop := (p = none ∧ t = .nil) ∨ ∃ g, p = some ⟨g, 0, none⟩ ∧ At w g t
/-- where it lies. -/
def foot (p : Option Addr) (t : Tr) (k : Nat) : Prop := (∃ a, p = some a ∧ k = a.block) ∨ t.has k
section
variable {w w' : World} {p : Option Addr} {t : Tr}
theorem Wh.lies (h : Wh w p t) : t.Lies w := by
  rcases h with ⟨_, rfl⟩ | ⟨g, _, h⟩
  · trivial
  · exact h.lies
theorem Wh.fits (h : Wh w p t) : t.list.length < 1000000000000000000 := by
  rcases h with ⟨_, rfl⟩ | ⟨g, _, h⟩
  · simp [Tr.list]
  · exact h.fits
theorem Wh.lt (h : Wh w p t) {k : Nat} (hk : foot p t k) : k < w.heap.size := by
  rcases hk with ⟨a, ha, rfl⟩ | hk
  · rcases h with ⟨rfl, _⟩ | ⟨g, rfl, h⟩
    · cases ha
    · cases ha; exact heap_lt h.head
  · exact h.lies.lt hk
theorem Wh.keep {K : Nat → Prop} (h : Wh w p t) (hk : Keep K w w') (hK : ∀ k, foot p t k → K k) : Wh w' p t := by
  rcases h with h | ⟨g, rfl, h⟩
  · exact .inl h
  · exact .inr ⟨g, rfl, hk.heap h.head (hK g (.inl ⟨_, rfl, rfl⟩)), h.lies.keep (fun i hi => hk.block i (h.lies.lt hi) (hK i (.inr hi))), h.up, h.bal, h.fits⟩
theorem whole_any (h : Wh w p t) : Calls Tryd.prog 66 #[.pointer p] w fun e w' => e = .returned (.pointer t.addr) ∧ w' = w := by
  rcases h with ⟨rfl, rfl⟩ | ⟨g, rfl, h⟩
  · exact whole_none w
  · exact whole_some h.c1
end
theorem behind_any (p : Option Addr) (f : Int) (w : World) : Calls Tryd.prog 76 #[.pointer p, .int .i64 f] w fun e w' => e = .returned (.func (.func 93) #[] #[.pointer (some ⟨w.heap.size, 0, none⟩), .pointer (some ⟨w.heap.size + 1, 0, none⟩)]) ∧ w' = (w.alloc (.cells #[.pointer p] 53)).alloc (.cells #[.int .i64 f] 3) := by
  go_enter Tryd.func76, Tryd.ntmps76
  go_wp2
  go_ret
  exact ⟨by simp, rfl⟩
theorem all_any (p : Option Addr) (w : World) : Calls Tryd.prog 50 #[.pointer p] w fun e w' => e = .returned (.func (.func 93) #[] #[.pointer (some ⟨w.heap.size, 0, none⟩), .pointer (some ⟨w.heap.size + 1, 0, none⟩)]) ∧ w' = (w.alloc (.cells #[.pointer p] 53)).alloc (.cells #[.int .i64 0] 3) := by
  go_enter Tryd.func50, Tryd.ntmps50
  go_wp2_with fail
  refine (behind_any p 0 w).mono ?_
  rintro e w1 ⟨rfl, rfl⟩
  go_wp2
  go_ret
  exact ⟨rfl, rfl⟩
set_option maxHeartbeats 2000000 in
theorem behind1_any {l X Y first : Nat} {p : Option Addr} {t : Tr} {J Jx : Nat → World → Prop} {W : World} (hw : Wh W p t) (hf : first < 1000000000000000000) (hJ : ∀ i A q, J i A → J i (A.drewN q)) (hL : ∀ i A, J i A → t.Lies A)
    (hS : ∀ i A, J i A ∨ Jx i A → A.cell? ⟨X, 0, none⟩ = some (.pointer p) ∧ A.cell? ⟨Y, 0, none⟩ = some (.int .i64 (first : Int))) (hY : Owes l J Jx (t.list.drop first)) (h0 : J 0 W) :
    Calls Tryd.prog 93 #[.func (.yield l) #[] #[], .pointer (some ⟨X, 0, none⟩), .pointer (some ⟨Y, 0, none⟩)] W fun e B => (∃ v, e = .returned v) ∧ (J (t.list.drop first).length B ∨ ∃ i, 0 < i ∧ i ≤ (t.list.drop first).length ∧ Jx i B) := by
  have K0 : Hid (W.drew.cell? ⟨X, 0, none⟩ = some (.pointer p) ∧ W.drew.cell? ⟨Y, 0, none⟩ = some (.int .i64 (first : Int))) := hS 0 W (.inl h0)
  have T1 : Hid (Calls Tryd.prog 66 #[.pointer p] W.drew fun e w' => e = .returned (.pointer t.addr) ∧ (w'.cell? ⟨X, 0, none⟩ = some (.pointer p) ∧ w'.cell? ⟨Y, 0, none⟩ = some (.int .i64 (first : Int))) ∧ Hid (w' = W.drew)) :=
    (whole_any (hw.keep (Keep.drew (fun _ => True) W) fun _ _ => trivial)).mono fun e w' ⟨he, hw'⟩ => ⟨he, hw' ▸ K0.out, hw'⟩
  have T2 : Hid (∀ w', Hid (w' = W.drew) → Calls Tryd.prog 94 #[.pointer t.addr, .int .i64 (first : Int), .func (.yield l) #[] #[]] w' fun e B => ∃ b : Bool, e = .returned (.bool b) ∧ (B.cell? ⟨X, 0, none⟩ = some (.pointer p) ∧ B.cell? ⟨Y, 0, none⟩ = some (.int .i64 (first : Int))) ∧ Hid (J (t.list.drop first).length B ∨ ∃ i, 0 < i ∧ i ≤ (t.list.drop first).length ∧ Jx i B)) := fun w' hw' => by
    rw [hw'.out]
    refine (tell_any l t hw.fits first J Jx W.drew hf hJ hL hY (hJ 0 W 1 h0)).mono ?_
    rintro e B ⟨b, he, ho⟩
    rcases ho.out with ⟨_, h⟩ | ⟨_, i, h1, h2, h3⟩
    · exact ⟨b, he, hS _ _ (.inl h), .inl h⟩
    · exact ⟨b, he, hS _ _ (.inr h3), .inr ⟨i, h1, h2, h3⟩⟩
  generalize (t.list.drop first).length = n at *
  generalize t.addr = ta at *
  clear hw hJ hL hS hY h0 hf
  go_enter Tryd.func93, Tryd.ntmps93
  go_wp2_with fail
  go_region_held3 (fun w' => w'.cell? ⟨X, 0, none⟩ = some (.pointer p) ∧ w'.cell? ⟨Y, 0, none⟩ = some (.int .i64 (first : Int))) (first | exact K0.out | assumption) (first
    | (go_at_call 66; refine T1.out.mono ?_; rintro e w2 ⟨rfl, hk2, ho1⟩)
    | (go_at_call 94; refine (T2.out _ ho1).mono ?_; rintro e w3 ⟨q, rfl, hk3, ho2⟩))
  go_wp2
  go_end0
  exact ⟨⟨_, rfl⟩, ho2.out⟩
/-- the function that behind returns, as one that tells. -/
theorem behind1_tells {W0 W : World} {p : Option Addr} {t : Tr} {X Y first : Nat} (hw : Wh W p t) (hX : W.cell? ⟨X, 0, none⟩ = some (.pointer p)) (hY : W.cell? ⟨Y, 0, none⟩ = some (.int .i64 (first : Int))) (hf : first < 1000000000000000000)
    (N : Nat → Prop) (hN : ∀ k, foot p t k ∨ k = X ∨ k = Y → N k) (hNl : ∀ k, N k → k < W.heap.size) (h0 : Keep N W0 W) :
    Tells Tryd.prog 93 #[.pointer (some ⟨X, 0, none⟩), .pointer (some ⟨Y, 0, none⟩)] (fun _ e => #[.int .u64 e.1, kn e.2]) (t.list.drop first) N (fun _ B => Keep N W0 B) W := by
  intro l J Jx M0 hM hJ hR hJ0
  refine callsIn_wide.2 ((behind1_any (l := l) (J := fun i A => ∃ M, J i M A ∧ Keep N W A ∧ ∀ k, M k → ¬ N k) (Jx := fun i A => ∃ M, Jx i M A ∧ Keep N W A) hw hf ?_ ?_ ?_ ?_ ⟨M0, hJ0, .refl _ _, fun k hk => (hM k hk).2⟩).mono ?_)
  · rintro i A q ⟨M, h1, h2, h3⟩
    exact ⟨M, hJ _ _ _ _ h1 (Keep.drewN _ _ _), h2.trans (Keep.drewN _ _ _), h3⟩
  · rintro i A ⟨M, h1, h2, h3⟩
    exact (hw.keep h2 fun k hk => hN k (.inl hk)).lies
  · intro i A h
    have hk : Keep N W A := by
      rcases h with ⟨M, _, h, _⟩ | ⟨M, _, h⟩ <;> exact h
    exact ⟨(hk.cell (p := ⟨X, 0, none⟩) (World.block_lt_of_cell? W ⟨X, 0, none⟩ hX) (hN X (.inr (.inl rfl)))).trans hX, (hk.cell (p := ⟨Y, 0, none⟩) (World.block_lt_of_cell? W ⟨Y, 0, none⟩ hY) (hN Y (.inr (.inr rfl)))).trans hY⟩
  · rintro i A x hx ⟨M, h1, h2, h3⟩
    refine (hR.at_ hx h1).mono ?_
    rintro e B ⟨b, he, ho⟩
    refine ⟨b, he, ?_⟩
    rcases ho.out with ⟨hb, M', hs, hk, hj⟩ | ⟨hb, M', hs, hk, hj⟩
    · exact .inl ⟨hb, M', hj, h2.trans (hk.mono fun k _ hn hm => h3 k hm hn), fun k hk' hn => by
        rcases hs k hk' with h | h
        · exact h3 k h hn
        · have := hNl k hn; have := h2.size; omega⟩
    · exact .inr ⟨hb, M', hj, h2.trans (hk.mono fun k _ hn hm => h3 k hm hn)⟩
  · rintro e B ⟨he, (⟨M, h1, h2, _⟩ | ⟨i, h1, h2, M, h3, h4⟩)⟩
    · exact ⟨he, .inl ⟨M, h1, h0.trans h2⟩⟩
    · exact ⟨he, .inr ⟨i, M, h1, h2, h3, h0.trans h4⟩⟩
end Go.Proofs.YtnhpcjiieagjnaaDoor.rk
