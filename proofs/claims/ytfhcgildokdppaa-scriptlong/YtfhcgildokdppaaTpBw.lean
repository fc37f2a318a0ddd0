/-
  TapeBack walked: for every slice of bytes and every slice of ints it returns true; what was in memory stays.
-/
import Derived.Test.YtfhcgildokdppaaTpAw
import Derived.Test.YtfhcgildokdppaaTpRp
namespace Go.Proofs.Ytfhcgildokdppaa.tp
open Go.RowKit
/-- the program's tape stands at a. -/
structure Bk (w : World) (D c : Nat) (q : Option Addr) (bs : List Nat) (a : Nat) (V : World) : Prop where
  old : Below w.heap.size w V
  tape : Tp 76 c V D q bs a
  hD : w.heap.size ≤ D
namespace Bk
variable {w V : World} {D c : Nat} {q : Option Addr} {bs : List Nat} {a : Nat}
theorem go {a' : Nat} {B : World} (h : Bk w D c q bs a V) (g : Go1 76 c V D q bs a' B) : Bk w D c q bs a' B := ⟨h.old.trans (g.2.below (fun k hk e => by have := h.hD; omega) h.old.size), g.1, h.hD⟩
theorem below {B : World} (h : Bk w D c q bs a V) (g : Below V.heap.size V B) : Bk w D c q bs a B := ⟨h.old.trans (g.mono h.old.size), h.tape.below g, h.hD⟩
theorem i7 (h : Bk w D c q bs a V) : Calls Try.prog 37 #[.pointer (some ⟨D, 0, none⟩)] V fun e B => e = .returned (.int .i64 (iv bs a)) ∧ Hid (Bk w D c q bs (ia bs a) B) :=
  (int7 h.tape).mono fun _ _ ⟨he, g⟩ => ⟨he, h.go g.out⟩
theorem b9 (h : Bk w D c q bs a V) : Calls Try.prog 40 #[.pointer (some ⟨D, 0, none⟩)] V fun e B => e = .returned (.int .i64 (bt bs a : Int)) ∧ Hid (Bk w D c q bs (nx bs a) B) :=
  (byte9 h.tape).mono fun _ _ ⟨he, g⟩ => ⟨he, h.go g.out⟩
theorem l14 (h : Bk w D c q bs a V) : Calls Try.prog 39 #[.pointer (some ⟨D, 0, none⟩)] V fun e B => e = .returned (.int .i64 ((bs.length - a : Nat) : Int)) ∧ Hid (Bk w D c q bs a B) :=
  (left14 h.tape).mono fun _ _ ⟨he, j, e⟩ => ⟨he, e ▸ h.below (below_drewN V j)⟩
end Bk
/-- where the number j begins. -/
def ps (bs : List Nat) (ls : List Int) (j : Nat) : Nat := (bs ++ ens (ls.take j)).length
theorem ps_zero (bs : List Nat) (ls : List Int) : ps bs ls 0 = bs.length := by simp [ps, ens]
theorem ps_end (bs : List Nat) (ls : List Int) : ps bs ls ls.length = (bs ++ ens ls).length := by unfold ps; rw [List.take_length]
theorem ps_next (bs : List Nat) (ls : List Int) (j : Nat) (h : j < ls.length) : ps bs ls (j + 1) = ps bs ls j + (en ls[j]).length := by
  unfold ps
  rw [← ens_take ls j h]
  simp
  omega
theorem ens_split (ls : List Int) (j : Nat) (h : j < ls.length) : ens ls = ens (ls.take j) ++ en ls[j] ++ ens (ls.drop (j + 1)) := by
  rw [ens_take ls j h]
  unfold ens
  rw [← List.flatMap_append, List.take_append_drop]
theorem ps_read (bs : List Nat) (ls : List Int) (j : Nat) (h : j < ls.length) (hr : -9223372036854775808 ≤ ls[j] ∧ ls[j] < 9223372036854775808) : iv (bs ++ ens ls) (ps bs ls j) = ls[j] ∧ ia (bs ++ ens ls) (ps bs ls j) = ps bs ls (j + 1) := by
  rw [ps_next bs ls j h, ens_split ls j h, ← List.append_assoc, ← List.append_assoc]
  exact iv_put (bs ++ ens (ls.take j)) (ens (ls.drop (j + 1))) ls[j] hr.1 hr.2
theorem bt_head (bs c : List Nat) (i : Nat) (h : i < bs.length) : bt (bs ++ c) i = bs[i] ∧ nx (bs ++ c) i = i + 1 := by
  have hl : i < (bs ++ c).length := by simp; omega
  rw [bt_in hl, nx_in hl, List.getElem_append_left h]
  exact ⟨rfl, rfl⟩
/-- two rows joined: one's own, and what another call made. -/
theorem join_rows {base : Nat} {w V B : World} {v : Value} {ys zs : List Nat} {u : Option Addr} {k c : Nat} (h : Made base w v ys V) (hk : k = zs.length) (h2 : Cl V (.slice u k c) zs B) (hl : ys.length + zs.length ≤ 100000000000000) (ty : TypeId) :
    ∃ v' w', (Builtin.append_ #[35, 35] ty #[v, .slice u k c]).run Try.prog B = .ok v' w' ∧ ((∃ a c, v' = .slice a (ys ++ zs).length c) ∧ Hid (Made base w v' (ys ++ zs) w')) := by
  subst hk
  obtain ⟨q, c', e, h3, h4, h5, h6⟩ := own_la h2.1
  injection e with e1 _ e2
  subst e1 e2
  have hlt := World.ownsRow.lt h.1
  have hk : Keep (fun _ => True) V B := Keep.of_below h2.2
  obtain ⟨v', w', hr, m1, m2⟩ := app_b (hk.own h.1 fun _ _ => trivial) h4 h5 hl (Nat.le_trans h.size hk.size) ty
  refine ⟨v', w', hr, ?_, ?_, h.2.1.trans ((hk.mono fun _ _ _ => trivial).trans (Keep.grown m2 fun j hj h' => ?_)), h.2.2⟩
  · rw [List.length_append]
    exact own_slice m1
  · rw [List.length_append]
    exact m1
  · have := (hlt j hj).1
    omega
/-- bytes copied to a new row. -/
theorem copy_row {w : World} {a : Option Addr} {cap : Nat} {bs : List Nat} (hr : La e8 w a bs) (hn : a = none → bs = [] ∧ cap = 0) (hl : bs.length ≤ 1000) (ty : TypeId) :
    ∃ v' w', (Builtin.append_ #[35, 35] ty #[.slice (some ⟨w.heap.size, 0, none⟩) 0 0, .slice a bs.length cap]).run Try.prog (w.alloc (.cells #[] 5)) = .ok v' w' ∧ ((∃ a c, v' = .slice a bs.length c) ∧ Hid (Made w.heap.size w v' bs w')) := by
  obtain ⟨v', w', hr, ho, hg⟩ := app_b (empty_own w 5 e8) (hr.below ((Below.refl _ _).alloc (Nat.le_refl _) (.cells #[] 5))) hn (by omega) (by simp) ty
  rw [Nat.zero_add, List.nil_append] at ho
  exact ⟨v', w', hr, own_slice ho, ho, (Keep.alloc _ _ _).trans (Keep.grown hg fun k hk => by simp [Value.ownBlock] at hk; omega), Nat.le_refl _⟩
end Go.Proofs.Ytfhcgildokdppaa.tp
