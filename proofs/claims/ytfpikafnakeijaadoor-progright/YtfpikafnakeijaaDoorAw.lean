/-
  What the three laws ask behind all ('awake'), by its contract, where the names read as they were laid.
-/
import Derived.Test.YtfpikafnakeijaaDoorPt
namespace Go.Proofs.YtfpikafnakeijaaDoor
open Go.RowKit Go.Shelf tp
theorem str115 : str [1, 1, 5] = ⟨#[1, 1, 5]⟩ := by rfl
theorem name7 : name 7 = ⟨#[108, 105, 109, 105, 116]⟩ := rfl
def lim : List Opn := [⟨1, 5, 0, 0, 0⟩]
theorem lim_fine : fine lim := ⟨by decide, fun o ho => by
  obtain rfl := List.mem_singleton.1 ho
  rfl⟩
theorem lim_ok : ∀ o ∈ lim, o.ok := fun o ho => by
  obtain rfl := List.mem_singleton.1 ho
  exact ⟨by unfold I64; decide, by unfold I64; decide, by unfold I64; decide, by unfold I64; decide, by unfold I64; decide⟩
theorem lim_bytes : ens (pus lim) = [1, 1, 5] := by rfl
/-- a slice of bytes that Put left behind, as a string. -/
theorem Pb.str {w B : World} {v : Option Addr} {k c : Nat} {all : List Nat} (h : Pb w v k c all B) : (convert 32 9 (.slice v k c)).run Tryd.prog B = .ok (.string (tp.str all)) B := by
  obtain ⟨rfl, hC⟩ := h
  obtain ⟨q, c', e, h3, h4, h5, h6⟩ := own_la hC.1
  injection e with e1 _ e2
  subst e1 e2
  exact string_of c h4
set_option maxHeartbeats 2000000 in
theorem awake6 {w : World} (hN : Names w) : Calls Tryd.prog 6 #[] w fun e B => e = .returned (.bool true) ∧ Hid (Below w.heap.size w B) := by
  have hb0 : Below w.heap.size w (w.alloc (.cells (ocs ⟨1, 5, 0, 0, 0⟩) 25)) := (Below.refl _ _).alloc (Nat.le_refl _) _
  have hE : Ea (w.alloc (.cells (ocs ⟨1, 5, 0, 0, 0⟩) 25)) (some ⟨w.heap.size, 0, none⟩) lim := fun _ => ⟨_, _, rfl, fun i hi => by
    obtain rfl : i = 0 := by simp [lim] at hi; omega
    exact cells5 (heap_next rfl _)⟩
  have T20 : Hid (Calls Tryd.prog 20 #[.slice none 0 0, .slice (some ⟨w.heap.size, 0, none⟩) 1 1] (w.alloc (.cells #[.int .i64 1, .int .i64 5, .int .i64 0, .int .i64 0, .int .i64 0] 25)) fun e B => ∃ v k c, e = .returned (.tuple #[.slice v k c, .bool true]) ∧ (convert 32 9 (.slice v k c)).run Tryd.prog B = .ok (.string ⟨#[1, 1, 5]⟩) B ∧ Hid (Below w.heap.size w B)) := by
    refine (put20 none 0 [] (some ⟨w.heap.size, 0, none⟩) 1 lim (w.alloc (.cells (ocs ⟨1, 5, 0, 0, 0⟩) 25)) (fun _ => ⟨rfl, rfl⟩) (by decide) (La.nil _ _) hE lim_ok lim_fine).mono ?_
    rintro e B ⟨v, k, c, he, hP⟩
    have hs := hP.out.str
    rw [List.nil_append, lim_bytes, str115] at hs
    exact ⟨v, k, c, he, hs, hb0.trans (hP.out.2.2.mono hb0.size)⟩
  have T14 : Hid (∀ B, Hid (Below w.heap.size w B) → Calls Tryd.prog 14 #[.int .i64 7] B fun e C => e = .returned (.string ⟨#[108, 105, 109, 105, 116]⟩) ∧ C = B) := fun B hB => by
    have := name14 7 (hN.below hN.1 hB.out)
    rw [name7] at this
    exact this
  have m1 := b01
  clear hb0 hE hN
  go_enter Tryd.func6, Tryd.ntmps6
  go_wp2_with fail
  refine T20.out.mono ?_
  rintro e w1 ⟨v, k, c, rfl, hs, hB⟩
  have T := Lib.hid (T14.out _ hB)
  clear T20 T14 m1
  go_wp2_with fail
  refine T.out.mono ?_
  rintro e w2 ⟨rfl, rfl⟩
  go_wp2
  go_ret
  exact ⟨rfl, hB⟩
end Go.Proofs.YtfpikafnakeijaaDoor
