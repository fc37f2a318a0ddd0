/-
  Sum of bytes of package xx by its contract, where the table of turns lies in memory as its text lays it: what it returns for every slice of bytes and every seed; what was in memory stays.
-/
import Derived.Test.YtmjcdondogpceaaDoorXxRefSum
namespace Go.Proofs.YtmjcdondogpceaaDoor.xx
open Go.ChangeShapes Go.WideShapes Go.ChangeAt Go.RowKit
theorem u64_nat {n : Int} (h : (Lit.int .u64 n).wf = true) : ∃ m : Nat, n = (m : Int) ∧ m < 18446744073709551616 := by
  have := Go.bounds_u64 h
  exact ⟨n.toNat, by omega, by omega⟩
theorem cell_lt {w : World} {a : Addr} {v : Value} (h : w.cell? a = some v) : a.block < w.heap.size := by
  rcases Nat.lt_or_ge a.block w.heap.size with h' | h'
  · exact h'
  · have : w.heap[a.block]? = none := by simp [h']
    simp [World.cell?, this] at h
theorem Row.lt {w : World} {a : Option Addr} {n : Nat} {l : List Nat} (h : Row w a n l) (hn : 0 < n) : ∀ x, a = some x → x.block < w.heap.size := by
  obtain ⟨b, off, rfl, hc⟩ := h.2 hn
  intro x hx
  injection hx with hx
  subst hx
  exact cell_lt (hc 0 hn)
theorem Turns.below {w w' : World} (h : Turns w) (hb : Below w.heap.size w w') : Turns w' := h.of_block (hb.block 1 h.pos) hb.size
theorem Turns.only {w w' : World} {g : Nat} (h : Turns w) (ho : Only g w w') (hg : 1 < g) : Turns w' := h.of_block (ho.other 1 (by omega)) (Nat.le_of_eq ho.size.symm)
theorem holds_new {w : World} {g seed : Nat} (h : Dig w g (seedS seed) (List.replicate 32 0) 0) : Holds w g seed [] :=
  ⟨List.replicate 32 0, by rw [run_small _ _ (by decide)]; exact h, by rw [left_small _ (by decide)]; rfl⟩
theorem xxsum_any (a : Option Addr) (m cap : Nat) (c : List Nat) (seed : Nat) (w : World) (hr : Row w a m c) (hc : bytes c) (hT : Turns w) (hs : seed < 18446744073709551616) (hm : m ≤ 4611686018427387904) (hcap : m ≤ cap) :
    Calls Tryd.prog 19 #[.slice a m cap, .int .u64 seed] w fun e w' => e = .returned (.int .u64 (xx c seed : Nat)) ∧ Below w.heap.size w w' := by
  have HR := Lib.hid hr
  have HC := Lib.hid hc
  have HT := Lib.hid hT
  clear hr hc hT
  have hpos := HT.out.pos
  go_enter Tryd.func19, Tryd.ntmps19
  go_wp2_with fail
  refine (new_any seed hs _).mono ?_
  rintro e w1 ⟨rfl, hd, b1, hz⟩
  have HH := Lib.hid (holds_new hd)
  have HB := Lib.hid b1
  have hR1 := HR.out.below b1 HR.out.lt
  have HR1 := Lib.hid hR1
  have HN : Hid (0 < m → ∀ x, a = some x → x.block ≠ w.heap.size) := fun h0 x hx => Nat.ne_of_lt (HR.out.lt h0 x hx)
  clear hd b1 hR1 hz
  generalize hg : w.heap.size = g at *
  have HG := Lib.hid hg
  clear hg
  go_wp2_with fail
  refine (write_any g seed [] a m cap c _ HH.out HR1.out HC.out HN.out (by simpa using hm) hcap).mono ?_
  rintro e w2 ⟨rfl, hh, ho⟩
  rw [List.nil_append] at hh
  have HH2 := Lib.hid hh
  have HO := Lib.hid ho
  have HT2 := Lib.hid ((HT.out.of_block (HB.out.block 1 hpos) HB.out.size).only ho hpos)
  clear hh ho
  go_wp2_with fail
  refine (sum_any g seed c _ HH2.out HC.out HT2.out (by have := HR.out.1; omega)).mono ?_
  rintro e w3 ⟨rfl, b3⟩
  have HB3 := Lib.hid b3
  clear b3
  go_wp2
  go_ret
  rw [HG.out]
  refine ⟨rfl, HB.out.trans ((HO.out.below (Nat.le_refl g)).trans (HB3.out.mono ?_))⟩
  have h1 := HB.out.size
  have h2 := HO.out.size
  have h3 := HG.out
  omega
end Go.Proofs.YtmjcdondogpceaaDoor.xx
