/-
  Sum of bytes by its contract, the law's own question whether the program answers, and XxSums walked call by call: where the table of turns lies in memory as its text lays it, each returns what it should for every input, and what was in memory stays.
-/
import Derived.Test.YtamimgcgimffgaaDoorRefSum
import Derived.Lib.SlBytesConst
namespace Go.Proofs.YtamimgcgimffgaaDoor
open Go.ChangeShapes Go.WideShapes Go.ChangeAt Go.RowKit
theorem u64_nat {n : Int} (h : (Lit.int .u64 n).wf = true) : ∃ m : Nat, n = (m : Int) ∧ m < 18446744073709551616 := by
  have := Go.bounds_u64 h
  exact ⟨n.toNat, by omega, by omega⟩
theorem cell_lt {w : World} {a : Addr} {v : Value} (h : w.cell? a = some v) : a.block < w.heap.size := by
  rcases Nat.lt_or_ge a.block w.heap.size with h' | h'
  · exact h'
  · have : w.heap[a.block]? = none := by simp [h']
    simp [World.cell?, this] at h
theorem Row.lt {w : World} {a : Option Addr} {n : Nat} {l : List Nat} (h : Row w a n l) (hn : 0 < n) : ∀ x, a = some x → x.block < w.heap.size := by
  obtain ⟨b, off, rfl, hc⟩ := h.2 hn
  intro x hx
  injection hx with hx
  subst hx
  exact cell_lt (hc 0 hn)
theorem Turns.below {w w' : World} (h : Turns w) (hb : Below w.heap.size w w') : Turns w' := h.of_block (hb.block 0 h.pos) hb.size
theorem Turns.only {w w' : World} {g : Nat} (h : Turns w) (ho : Only g w w') (hg : 0 < g) : Turns w' := h.of_block (ho.other 0 (by omega)) (Nat.le_of_eq ho.size.symm)
theorem holds_new {w : World} {g seed : Nat} (h : Dig w g (seedS seed) (List.replicate 32 0) 0) : Holds w g seed [] :=
  ⟨List.replicate 32 0, by rw [run_small _ _ (by decide)]; exact h, by rw [left_small _ (by decide)]; rfl⟩
theorem xxsum_any (a : Option Addr) (m cap : Nat) (c : List Nat) (seed : Nat) (w : World) (hr : Row w a m c) (hc : bytes c) (hT : Turns w) (hs : seed < 18446744073709551616) (hm : m ≤ 4611686018427387904) (hcap : m ≤ cap) :
    Calls Tryd.prog 6 #[.slice a m cap, .int .u64 seed] w fun e w' => e = .returned (.int .u64 (xx c seed : Nat)) ∧ Below w.heap.size w w' := by
  have HR := Lib.hid hr
  have HC := Lib.hid hc
  have HT := Lib.hid hT
  clear hr hc hT
  have hpos := HT.out.pos
  go_enter Tryd.func6, Tryd.ntmps6
  go_wp2_with fail
  refine (new_any seed hs _).mono ?_
  rintro e w1 ⟨rfl, hd, b1, hz⟩
  have HH := Lib.hid (holds_new hd)
  have HB := Lib.hid b1
  have hR1 := HR.out.below b1 HR.out.lt
  have HR1 := Lib.hid hR1
  have HN : Hid (0 < m → ∀ x, a = some x → x.block ≠ w.heap.size) := fun h0 x hx => Nat.ne_of_lt (HR.out.lt h0 x hx)
  clear hd b1 hR1 hz
  generalize hg : w.heap.size = g at *
  have HG := Lib.hid hg
  clear hg
  go_wp2_with fail
  refine (write_any g seed [] a m cap c _ HH.out HR1.out HC.out HN.out (by simpa using hm) hcap).mono ?_
  rintro e w2 ⟨rfl, hh, ho⟩
  rw [List.nil_append] at hh
  have HH2 := Lib.hid hh
  have HO := Lib.hid ho
  have HT2 := Lib.hid ((HT.out.of_block (HB.out.block 0 hpos) HB.out.size).only ho hpos)
  clear hh ho
  go_wp2_with fail
  refine (sum_any g seed c _ HH2.out HC.out HT2.out (by have := HR.out.1; omega)).mono ?_
  rintro e w3 ⟨rfl, b3⟩
  have HB3 := Lib.hid b3
  clear b3
  go_wp2
  go_ret
  rw [HG.out]
  refine ⟨rfl, HB.out.trans ((HO.out.below (Nat.le_refl g)).trans (HB3.out.mono ?_))⟩
  have h1 := HB.out.size
  have h2 := HO.out.size
  have h3 := HG.out
  omega
theorem abc_row (w : World) : Row (w.alloc (.cells #[.int .u8 97, .int .u8 98, .int .u8 99] 5 (3, 4))) (some ⟨w.heap.size, 0, none⟩) 3 [97, 98, 99] := by
  refine ⟨rfl, fun _ => ⟨w.heap.size, 0, rfl, fun i hi => ?_⟩⟩
  rcases (show i = 0 ∨ i = 1 ∨ i = 2 from by omega) with h | h | h <;> subst h <;> rw [World.cell?_alloc_mark] <;> rfl
theorem abc_small : bytes [97, 98, 99] := fun b hb => by
  simp at hb
  omega
theorem awake_sum (w : World) (hT : Turns w) : Calls Tryd.prog 6 #[.slice (some ⟨w.heap.size, 0, none⟩) 3 3, .int .u64 0] (w.alloc (.cells #[.int .u8 97, .int .u8 98, .int .u8 99] 5 (3, 4))) fun e w' => e = .returned (.int .u64 4952883123889572249) ∧ Below w.heap.size w w' :=
  (xxsum_any _ 3 3 [97, 98, 99] 0 _ (abc_row w) abc_small (hT.below ((Below.refl _ _).alloc (Nat.le_refl _) _)) (by decide) (by decide) (by decide)).mono fun _ _ ⟨he, hb⟩ => ⟨by rw [he, xx_abc]; rfl, ((Below.refl _ _).alloc (Nat.le_refl _) _).trans (hb.mono (by simp))⟩
theorem awake_any (w : World) (hT : Turns w) : Calls Tryd.prog 5 #[] w fun e w' => e = .returned (.bool true) ∧ Below w.heap.size w w' := by
  have HS := Lib.hid (awake_sum w hT)
  have hcv := fun (w : World) (C : Array Value) (n c : Nat) => Lib.run_convert_bytes_const (P := Tryd.prog) w 22 5 C n c Tryd.underlying22 Tryd.underlying5
  clear hT
  go_enter Tryd.func5, Tryd.ntmps5
  go_wp2_with fail
  refine HS.out.mono ?_
  rintro e w1 ⟨rfl, b1⟩
  go_wp2
  go_ret
  exact ⟨rfl, b1⟩
set_option maxHeartbeats 800000 in
theorem sums_walk (a : Option Addr) (n cap : Nat) (l : List Nat) (seed : Nat) (w : World) (hr : Row w a n l) (hl : bytes l) (hT : Turns w) (hs : seed < 18446744073709551616) (hcap : n ≤ cap) :
    Calls Tryd.prog 3 #[.slice a n cap, .int .u64 seed] w fun e w' => e = .returned (.bool true) ∧ Below w.heap.size w w' := by
  have HR := Lib.hid hr
  have HL := Lib.hid hl
  have HT := Lib.hid hT
  clear hr hl hT
  by_cases h300 : 300 < n
  · have h300i : (300 : Int) < (n : Int) := by omega
    go_enter Tryd.func3, Tryd.ntmps3
    go_wp2_with fail
    refine (awake_any _ HT.out).mono ?_
    rintro e w1 ⟨rfl, b1⟩
    go_wp2
    go_ret
    exact ⟨rfl, b1⟩
  · go_enter Tryd.func3, Tryd.ntmps3
    go_wp2_with fail
    refine (xxsum_any a n cap l seed _ HR.out HL.out HT.out hs (by omega) hcap).mono ?_
    rintro e w1 ⟨rfl, b1⟩
    have HB1 := Lib.hid b1
    clear b1
    go_wp2_with fail
    refine (refsum_any a n cap l seed _ (HR.out.below HB1.out HR.out.lt) HL.out (by omega) hcap hs (fun h0 x hx => Nat.lt_of_lt_of_le (HR.out.lt h0 x hx) HB1.out.size)).mono ?_
    rintro e w2 ⟨rfl, b2⟩
    have HB2 := Lib.hid (bnext HB1.out b2)
    clear b2
    go_wp2_with fail
    refine (awake_any _ (HT.out.below HB2.out)).mono ?_
    rintro e w3 ⟨rfl, b3⟩
    go_wp2
    go_ret
    exact ⟨rfl, bnext HB2.out b3⟩
end Go.Proofs.YtamimgcgimffgaaDoor
