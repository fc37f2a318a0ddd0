/-
  Rest of package tape by its contract, for every tape; a slice of bytes as a string.
-/
import Derived.Test.YtmjboaflbjnpcaaTi
import Derived.Laws.IdiomStrings
import Derived.Laws.BytesArg
namespace Go.Proofs.Ytmjboaflbjnpcaa
open Go.RowKit
theorem elem22 : Try.prog.underlying 22 = some (.slice (Try.prog.elem 22)) := by kernel_rfl
theorem size22 (w : World) : (sizeOf (Try.prog.elem 22)).run Try.prog w = .ok 1 w := by kernel_rfl
/-- 'x[k:]' of bytes: where what is behind lies. -/
theorem cut_l (q : Option Addr) (n cap k : Nat) (hk : k ≤ n) (hc : n ≤ cap) : ∃ p, (∀ W', (Instr.slice 22 (.slice q n cap) (some (.int .i64 (k : Int))) none none).run Try.prog W' = .ok (.slice p (n - k) (cap - k)) W') ∧ (∀ b o, q = some ⟨b, o, none⟩ → k < n → p = some ⟨b, o + k, none⟩) ∧ (q = none → p = none) ∧ (p = none → q = none) := by
  cases q with
  | none =>
    refine ⟨none, fun W' => ?_, fun _ _ h => (by cases h), fun _ => rfl, fun _ => rfl⟩
    rw [run_slice_l W' 22 none n cap elem22 .i64 (k : Int) (by omega) (by omega), size22]
    simp [sliced]
  | some x =>
    refine ⟨some (if cap = k then x else x.add k), fun W' => ?_, fun b' o' h hlt => ?_, fun h => (by cases h), fun h => (by cases h)⟩
    · rw [run_slice_l W' 22 (some x) n cap elem22 .i64 (k : Int) (by omega) (by omega), size22]
      by_cases h : cap = k <;> simp [sliced, h]
    · obtain rfl : x = ⟨b', o', none⟩ := by simpa using h
      rw [if_neg (by omega)]
      simp [Addr.add]
theorem La.drop {w : World} {q p : Option Addr} {bs : List Nat} (h : La e8 w q bs) (k : Nat) (hp : ∀ b o, q = some ⟨b, o, none⟩ → k < bs.length → p = some ⟨b, o + k, none⟩) : La e8 w p (bs.drop k) := fun h0 => by
  rw [List.length_drop] at h0
  obtain ⟨b, o, rfl, hi⟩ := h (by omega)
  refine ⟨b, o + k, hp b o rfl (by omega), fun i hi' => ?_⟩
  rw [List.length_drop] at hi'
  rw [Nat.add_assoc, hi (k + i) (by omega), List.getElem_drop]
/-- the string of bytes l. -/
def str (l : List Nat) : ByteArray := strOfNums (l.map fun n : Nat => (n : Int))
/-- 'string(b)'. -/
theorem string_of {w : World} {a : Option Addr} {l : List Nat} (cap : Nat) (h : La e8 w a l) : (convert 22 9 (.slice a l.length cap)).run Try.prog w = .ok (.string (str l)) w := by
  rcases Nat.eq_zero_or_pos l.length with h0 | h0
  · obtain rfl := List.eq_nil_of_length_eq_zero h0
    cases a with
    | none => exact run_convert_bytes_nil w 22 5 Try.underlying22 Try.underlying5 0 cap 9 Try.underlying9
    | some x => exact run_convert_bytes_back w 22 9 5 x cap [] Try.underlying22 Try.underlying5 Try.underlying9 (fun j hj => absurd hj (Nat.not_lt_zero j))
  · obtain ⟨b, o, rfl, hi⟩ := h h0
    exact run_convert_bytes_arg w 22 5 Try.underlying22 Try.underlying5 b o l.length cap (l.map fun n : Nat => (n : Int)) (by rw [List.length_map]) (fun i hi' => by rw [hi i hi']; simp [hi']) 9 Try.underlying9
/-- what Rest leaves behind. -/
def Rd (w : World) (D cap : Nat) (q : Option Addr) (bs : List Nat) (a : Nat) (r : Option Addr) (B : World) : Prop := Go1 38 cap w D q bs bs.length B ∧ La e8 B r (bs.drop a) ∧ (∀ b o, r = some ⟨b, o, none⟩ → w.heap.size ≤ b)
set_option maxHeartbeats 2000000 in
theorem rest15 {w : World} {D cap : Nat} {q : Option Addr} {bs : List Nat} {a : Nat} (h : Tp 38 cap w D q bs a) :
    Calls Try.prog 15 #[.pointer (some ⟨D, 0, none⟩)] w fun e B => ∃ r c, e = .returned (.slice r (bs.length - a) c) ∧ Hid (Rd w D cap q bs a r B) := by
  obtain ⟨p, hp, hp1, hp2, hp3⟩ := cut_l q bs.length cap a h.le h.cp
  have hle := h.le
  have hlen := h.len
  have hl : (bs.drop a).length = bs.length - a := List.length_drop
  have T := clone18 p (bs.drop a) (cap - a) w.drew (fun e => by
    have := h.nil (hp3 e)
    rw [this.1, this.2]
    simp) (by omega) ((h.lst.drop a hp1).below (below_drewN w 1))
  rw [hl] at T
  have T := Lib.hid T
  have S0 : Hid (∀ v c B, Hid (Cl w.drew (.slice v (bs.length - a) c) (bs.drop a) B) → (B.cell? ⟨D, 0, none⟩ = some (.slice q bs.length cap) ∧ B.cell? ⟨D, 1, none⟩ = some (.int .i64 (a : Int)) ∧ B.frozen? ⟨D, 1, none⟩ = false) ∧ Hid (Rd w D cap q bs a v (B.setCell ⟨D, 1, none⟩ (.int .i64 (bs.length : Int))))) := fun v c B k => by
    have hb : Below w.heap.size w B := (below_drewN w 1).trans k.out.2
    have h1 := h.below hb
    refine ⟨⟨h1.c0, h1.c1, h1.f1⟩, Go1.next h hb (Nat.le_refl _), ?_⟩
    have ho := k.out.1
    rw [← hl] at ho
    obtain ⟨q', c', e, h2, h3, h4, h5⟩ := own_la ho
    injection e with e1 _ e2
    subst e1 e2
    refine ⟨h3.keep (K := fun k => k ≠ D) (Keep.setCell _ _ _ (by simp)) (fun b o hb h0 => ?_), h5⟩
    have := h5 b o hb
    have := h.lt
    show b ≠ D
    have e : w.drew.heap.size = w.heap.size := rfl
    omega
  have c0 := h.c0
  have c1 := h.c1
  have K0 : Hid (w.drew.cell? ⟨D, 0, none⟩ = some (.slice q bs.length cap) ∧ w.drew.cell? ⟨D, 1, none⟩ = some (.int .i64 (a : Int))) := ⟨c0, c1⟩
  clear h hp1 hp2 hp3 hl
  generalize bs.length = n at *
  obtain ⟨m, hm⟩ : ∃ m, n - a = m := ⟨_, rfl⟩
  rw [hm] at hp T S0 ⊢
  generalize cap - a = ca at *
  clear hm
  go_enter Try.func15, Try.ntmps15
  go_wp2
  go_region_held3 (fun V => V.cell? ⟨D, 0, none⟩ = some (.slice q n cap) ∧ V.cell? ⟨D, 1, none⟩ = some (.int .i64 (a : Int))) (first | exact K0.out | assumption | exact ⟨k0, k1⟩) (first | (go_at_call 18; refine T.out.mono ?_; rintro e w1 ⟨r, c, rfl, K⟩; obtain ⟨⟨k0, k1, kf⟩, N⟩ := S0.out r c _ K))
  go_wp2
  go_ret
  exact ⟨r, c, rfl, N⟩
end Go.Proofs.Ytmjboaflbjnpcaa
