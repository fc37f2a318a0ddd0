/-
  The law's helper stands, by its contract: true where the row has just the counters of the slice.
-/
import Derived.Test.YtnbgloooklgngaaLoops
import Derived.Test.YtnbgloooklgngaaHelps
import Derived.Test.YtnbgloooklgngaaSum
namespace Go.Proofs.Ytnbgloooklgngaa
open Go.RowKit
/-- the string of bytes l. -/
def str (l : List Nat) : ByteArray := strOfNums (l.map fun n : Nat => (n : Int))
/-- 'string(b)'. -/
theorem string_of_q {w : World} {v : Value} {l : List Nat} (h : Q e8 w v l) : (convert 44 9 v).run Try.prog w = .ok (.string (str l)) w := by
  rcases h with ⟨rfl, rfl⟩ | ⟨b, o, cap, rfl, hc, hi⟩
  · exact run_convert_bytes_nil w 44 5 Try.underlying44 Try.underlying5 0 0 9 Try.underlying9
  · by_cases h0 : l.length = 0
    · obtain rfl := List.eq_nil_of_length_eq_zero h0
      exact run_convert_bytes_back w 44 9 5 ⟨b, o, none⟩ cap [] Try.underlying44 Try.underlying5 Try.underlying9 (fun j hj => absurd hj (Nat.not_lt_zero j))
    · exact run_convert_bytes_arg w 44 5 Try.underlying44 Try.underlying5 b o l.length cap (l.map fun n : Nat => (n : Int)) (by rw [List.length_map]) (fun i hi' => by rw [hi i hi']; simp [hi']) 9 Try.underlying9
theorem sum_take (cs : List Nat) (j : Nat) (hj : j < cs.length) : (cs.take (j + 1)).sum = (cs.take j).sum + ct cs j := by
  rw [List.take_succ_eq_append_getElem hj, List.sum_append]
  simp [ct, hj]
theorem sum_take_le (cs : List Nat) (j : Nat) : (cs.take j).sum ≤ cs.sum := by
  have h : cs.sum = (cs.take j).sum + (cs.drop j).sum := by rw [← List.sum_append, List.take_append_drop]
  omega
set_option maxHeartbeats 2000000 in
theorem stands_some {w : World} {r g : Nat} {cs : List Nat} (h : Nib w r g cs) {v : Value} (hv : Q e64 w v cs) (hs : cs.sum ≤ 1000000) :
    Calls Try.prog 15 #[.pointer (some ⟨r, 0, none⟩), v] w fun e B => e = .returned (.bool true) ∧ Below w.heap.size w B := by
  obtain ⟨a, cap, rfl, hc⟩ := hv.slice
  have hlid := h.lid
  have G : Hid (∀ q j, j < cs.length → Calls Try.prog 11 #[.pointer (some ⟨r, 0, none⟩), .int .i64 (j : Int)] (w.drewN q) fun e w' => e = .returned (.int .i64 (ct cs j : Int)) ∧ ∃ m, w' = (w.drewN q).drewN m) := fun q j hj => get_in (h.drewN q) j hj
  have C : Hid (∀ j, j < cs.length → ∃ b o, a = some ⟨b, o, none⟩ ∧ ∀ q, (w.drewN q).cell? ⟨b, o + j, none⟩ = some (.int .i64 (ct cs j : Int))) := fun j hj => by
    obtain ⟨b, o, cap', hv', hc'⟩ := hv.at_ j hj
    injection hv' with hv'
    exact ⟨b, o, hv', fun q => hc'⟩
  have B0 : Hid (∀ q, Below w.heap.size w (w.drewN q)) := fun q => (Keep.drewN (fun _ => True) w q).below (fun _ _ => trivial) (Nat.le_refl _)
  have T17 : Hid (∀ q, Calls Try.prog 17 #[.pointer (some ⟨r, 0, none⟩)] (w.drewN q) fun e w' => e = .returned (.int .i64 (cs.length : Int)) ∧ w' = w.drewN q) := fun q => len_some (h.drewN q)
  have T18 : Hid (∀ W, Below w.heap.size w W → Calls Try.prog 18 #[.pointer (some ⟨r, 0, none⟩)] W fun e B => e = .returned (.int .i64 (cs.sum : Int)) ∧ Hid (Below w.heap.size w B)) := fun W hW => (sum_some (h.below hW) hs).mono fun e B ⟨he, hB⟩ => ⟨he, hW.trans (hB.mono hW.size)⟩
  have T19 : Hid (∀ W, Hid (Below w.heap.size w W) → Calls Try.prog 19 #[.pointer (some ⟨r, 0, none⟩)] W fun e B => ∃ a1 n1 c1, e = .returned (.slice a1 n1 c1) ∧ (convert 44 9 (.slice a1 n1 c1)).run Try.prog B = .ok (.string (str (pack cs))) B ∧ Hid (Below w.heap.size w B ∧ Q e8 B (.slice a1 n1 c1) (pack cs))) := fun W hW => (bytes_some (h.below hW.out)).mono fun e B ⟨v, he, h1, h2⟩ => by
    have h3 := string_of_q h1
    have h4 := h1
    obtain ⟨a1, c1, rfl, _⟩ := h1.slice
    exact ⟨a1, _, c1, he, h3, hW.out.trans (h2.mono hW.out.size), h4⟩
  have T22 : Hid (∀ W a1 n1 c1, Hid (Below w.heap.size w W ∧ Q e8 W (.slice a1 n1 c1) (pack cs)) → Calls Try.prog 22 #[.slice a cs.length cap] W fun e B => ∃ a2 n2 c2, e = .returned (.slice a2 n2 c2) ∧ (convert 44 9 (.slice a2 n2 c2)).run Try.prog B = .ok (.string (str (pack cs))) B ∧ (convert 44 9 (.slice a1 n1 c1)).run Try.prog B = .ok (.string (str (pack cs))) B ∧ Hid (Below w.heap.size w B)) := fun W a1 n1 c1 hW =>
    (refbytes_any (hv.below hW.out.1) (by omega) h.low).mono fun e B ⟨v, he, h1, h2⟩ => by
      have h3 := string_of_q h1
      obtain ⟨a2, c2, rfl, _⟩ := h1.slice
      exact ⟨a2, _, c2, he, h3, string_of_q (hW.out.2.below h2), hW.out.1.trans (h2.mono hW.out.1.size)⟩
  have SL : Hid (∀ j, (cs.take j).sum ≤ cs.sum) := sum_take_le cs
  have SN : Hid (∀ j, j < cs.length → (cs.take (j + 1)).sum = (cs.take j).sum + ct cs j) := sum_take cs
  have SE : Hid ((cs.take cs.length).sum = cs.sum) := by rw [List.take_length]; exact rfl
  have SL1 : Hid (∀ j, j < cs.length → ct cs j ≤ 15) := fun j _ => h.low j
  clear h hv
  generalize hst : str (pack cs) = st at *
  clear hst
  go_enter Try.func15, Try.ntmps15
  go_wp2_with fail
  go_loopw [5, 6] (fun s i wr => (∃ m, wr = w.drewN m) ∧ ∃ j t : Nat, j ≤ cs.length ∧ i = .int .i64 j ∧ s = .int .i64 t ∧ Hid (t = (cs.take j).sum)) (fun _ i _ => cs.length - (intOf i).toNat)
  case atStart => exact ⟨⟨0, rfl⟩, 0, 0, Nat.zero_le _, rfl, rfl, by simp [Hid]⟩
  case round =>
    obtain ⟨⟨m, rfl⟩, j, t, hj, rfl, rfl, ht⟩ := hrel
    have htl : t ≤ 1000000 := by have := SL.out j; have := ht.out; omega
    by_cases hlt : j < cs.length
    · obtain ⟨b, o, rfl, hcell⟩ := C.out j hlt
      have G1 : Hid (∀ q, Calls Try.prog 11 #[.pointer (some ⟨r, 0, none⟩), .int .i64 (j : Int)] ((w.drewN m).drewN q) fun e w' => e = .returned (.int .i64 (ct cs j : Int)) ∧ ∃ m', w' = ((w.drewN m).drewN q).drewN m') := fun q => by rw [World.drewN_drewN]; exact G.out (m + q) j hlt
      have hcl := SL1.out j hlt
      have hN : Hid ((cs.take (j + 1)).sum = t + ct cs j) := by rw [SN.out j hlt, ht.out]; exact rfl
      clear G C T17 T18 T19 T22 ht SN SL SE SL1
      generalize ct cs j = c at *
      generalize cs.length = n at *
      have hcell := hcell m
      have HM : Hid (∀ q, ∃ m', (w.drewN m).drewN q = w.drewN m') := fun q => ⟨m + q, World.drewN_drewN _ _ _⟩
      generalize w.drewN m = W at *
      go_wp2_with fail
      go_quiet (first | (go_at_call 11; exact Calls.quiet_of (G1.out _)))
      go_wp2
      go_roundw
      case rel => exact ⟨HM.out _, j + 1, t + c, by omega, by simp, by simp, hN.out.symm⟩
      case measure => simp [intOf]; omega
    · obtain rfl : j = cs.length := by omega
      obtain rfl : t = cs.sum := by rw [ht.out, SE.out]
      have T17' := Lib.hid (T17.out (m + 1))
      have T18' := Lib.hid (T18.out _ (B0.out (m + 1)))
      clear G C T17 T18 ht SN SL SE SL1 B0 htl
      generalize cs.sum = t at *
      generalize cs.length = n at *
      go_wp2_with fail
      go_region_with (first
        | (go_at_call 17; refine T17'.out.mono ?_; rintro e w1 ⟨rfl, e1⟩; subst e1)
        | (go_at_call 18; refine T18'.out.mono ?_; rintro e w2 ⟨rfl, h2⟩)
        | (go_at_call 19; refine (T19.out _ h2).mono ?_; rintro e w3 ⟨a1, n1, c1, rfl, cv3, h3⟩)
        | (go_at_call 22; refine (T22.out _ _ _ _ h3).mono ?_; rintro e w4 ⟨a2, n2, c2, rfl, cv4, cv5, h4⟩))
      all_goals (
        go_wp2
        go_ret
        exact ⟨rfl, h4.out⟩)
end Go.Proofs.Ytnbgloooklgngaa
