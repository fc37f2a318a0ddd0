/-
  Used and Peek of package dice by their contracts, for every dice; each function of none; the document's At.
-/
import Derived.Test.YthbniikenenijaaDoorDn
namespace Go.Proofs.YthbniikenenijaaDoor
open Go.RowKit
theorem used11 {w : World} {D cap : Nat} {q : Option Addr} {xs : List Int} {s u : Nat} (h : Dc 39 cap w D q xs s u) :
    Calls Tryd.prog 11 #[.pointer (some ⟨D, 0, none⟩)] w fun e B => e = .returned (.int .i64 (u : Int)) ∧ B = w := by
  have c2 := h.c2
  clear h
  go_enter Tryd.func11, Tryd.ntmps11
  go_wp2
  go_ret
  exact ⟨rfl, rfl⟩
/-- k brought between 0 and 2^20. -/
def nr (k : Int) : Nat := (min (max k 0) 1048576).toNat
set_option maxHeartbeats 1000000 in
theorem peek12 {w : World} {D cap : Nat} {q : Option Addr} {xs : List Int} {s u : Nat} (h : Dc 39 cap w D q xs s u) (ht : mx.Steps w) (hu : u ≤ 1000000) (k : Int) :
    Calls Tryd.prog 12 #[.pointer (some ⟨D, 0, none⟩), .int .i64 k] w fun e B => e = .returned (.int .u64 (dr xs s (u + nr k) : Nat)) ∧ Hid (Below w.heap.size w B) := by
  have hn : (min (max k 0) 1048576 : Int) = (nr k : Int) := by unfold nr; omega
  have hn2 : nr k ≤ 1048576 := by unfold nr; omega
  have T := Lib.hid (draw16 h ht (u + nr k) (by omega))
  have c2 := h.c2
  clear h ht
  generalize dr xs s (u + nr k) = y at *
  generalize nr k = j at *
  have e1 : ((u + j : Nat) : Int) = (u : Int) + (j : Int) := by omega
  rw [e1] at T
  clear e1
  go_enter Tryd.func12, Tryd.ntmps12
  go_wp2_with fail
  refine T.out.mono ?_
  rintro e w1 ⟨rfl, hb⟩
  go_wp2
  go_ret
  exact ⟨rfl, hb⟩
theorem none7 (w : World) : Calls Tryd.prog 7 #[.pointer none] w fun e B => e = .returned (.int .u64 0) ∧ B = w := by
  go_enter Tryd.func7, Tryd.ntmps7
  go_wp2
  go_ret
  exact ⟨rfl, rfl⟩
theorem none9 (w : World) (n : Int) (h1 : 1 ≤ n) (h2 : n < 9223372036854775808) : Calls Tryd.prog 9 #[.pointer none, .int .i64 n] w fun e B => e = .returned (.int .i64 0) ∧ B = w := by
  have T := Lib.hid (none7 w)
  have w1 : IntKind.u64.wrap n = n := by rw [IntKind.wrap_u64]; omega
  have w2 : (0 : Int) % n = 0 := by simp
  have h3 : ¬ n < 1 := by omega
  have h4 : ¬ n = 0 := by omega
  go_enter Tryd.func9, Tryd.ntmps9
  go_wp2_with fail
  refine T.out.mono ?_
  rintro e w3 ⟨rfl, E⟩
  obtain rfl := E
  clear T
  go_wp2
  go_ret
  exact ⟨rfl, rfl⟩
theorem none11 (w : World) : Calls Tryd.prog 11 #[.pointer none] w fun e B => e = .returned (.int .i64 0) ∧ B = w := by
  go_enter Tryd.func11, Tryd.ntmps11
  go_wp2
  go_ret
  exact ⟨rfl, rfl⟩
theorem none12 (w : World) (k : Int) : Calls Tryd.prog 12 #[.pointer none, .int .i64 k] w fun e B => e = .returned (.int .u64 0) ∧ B = w := by
  go_enter Tryd.func12, Tryd.ntmps12
  go_wp2
  go_ret
  exact ⟨rfl, rfl⟩
theorem none14 (w : World) : Calls Tryd.prog 14 #[.pointer none] w fun e B => e = .returned (.pointer none) ∧ B = w := by
  go_enter Tryd.func14, Tryd.ntmps14
  go_wp2
  go_ret
  exact ⟨rfl, rfl⟩
theorem sum_next (s i : Nat) : IntKind.u64.wrap ((((s + 11400714819323198485 * i) % 18446744073709551616 : Nat) : Int) + 11400714819323198485) = (((s + 11400714819323198485 * (i + 1)) % 18446744073709551616 : Nat) : Int) := by
  rw [IntKind.wrap_u64]
  omega
set_option maxHeartbeats 1000000 in
theorem at13 (a : Option Addr) (xs : List Int) (cap s k : Nat) (w : World) (hr : La w a xs) (hl : xs.length ≤ 17592186044416) (hs : s < 18446744073709551616) (hk : k ≤ 1099511627776) :
    Calls Tryd.prog 13 #[.slice a xs.length cap, .int .u64 (s : Int), .int .i64 (k : Int)] w fun e B => e = .returned (.int .u64 (dr xs s k : Nat)) ∧ w = B := by
  by_cases hlt : k < xs.length
  · obtain ⟨b, o, rfl, hi⟩ := hr (by omega)
    have hc := hi k hlt
    have e : dr xs s k = (xs[k] % 18446744073709551616).toNat := by unfold dr; rw [dif_pos hlt]
    have e2 : IntKind.u64.wrap xs[k] = ((dr xs s k : Nat) : Int) := by rw [e, IntKind.wrap_u64]; omega
    generalize dr xs s k = y at *
    generalize xs[k] = x at *
    clear hi hr e
    generalize xs.length = n at *
    have i2 : (k : Int) < (n : Int) := by omega
    have i3 : (0 : Int) ≤ (k : Int) := by omega
    go_enter Tryd.func13, Tryd.ntmps13
    go_wp2
    go_ret
    exact ⟨rfl, rfl⟩
  · obtain ⟨j, hj⟩ : ∃ j, k = xs.length + j := ⟨k - xs.length, by omega⟩
    have e : dr xs s k = mx.mixN ((s + 11400714819323198485 * (j + 1)) % 18446744073709551616) := by
      unfold dr
      rw [dif_neg hlt, show k - xs.length = j by omega]
    have M := Lib.hid (mx.refmix_any ((s + 11400714819323198485 * (j + 1)) % 18446744073709551616) (by omega) w)
    rw [← e] at M
    generalize dr xs s k = y at *
    clear hr e
    obtain ⟨n, hn⟩ : ∃ n, xs.length = n := ⟨_, rfl⟩
    rw [hn] at hj hlt ⊢
    clear hn
    have hj' : j ≤ 1099511627776 := by omega
    have hk1 : ¬ (k : Int) < (n : Int) := by omega
    have hn2 : n ≤ k := by omega
    have Z : Hid (∃ f : Nat → Nat, (f 0 = s) ∧ f (j + 1) = (s + 11400714819323198485 * (j + 1)) % 18446744073709551616 ∧ ∀ i, IntKind.u64.wrap ((f i : Nat) + 11400714819323198485) = ((f (i + 1) : Nat) : Int)) := ⟨fun i => (s + 11400714819323198485 * i) % 18446744073709551616, by simp; omega, rfl, fun i => sum_next s i⟩
    obtain ⟨f, f0, f1, fi⟩ := Z.out
    rw [← f1] at M
    have F0 := Lib.hid f0
    have FI := Lib.hid fi
    have J := Lib.hid hj
    clear Z f0 f1 fi hj hs hlt
    go_enter Tryd.func13, Tryd.ntmps13
    go_wp2
    go_loop [7, 8] (fun x i => ∃ m : Nat, n ≤ m ∧ m ≤ k + 1 ∧ i = .int .i64 m ∧ x = .int .u64 (f (m - n) : Nat)) (fun _ i => k + 1 - (intOf i).toNat)
    case atStart => exact ⟨n, by omega, by omega, rfl, by rw [Nat.sub_self, F0.out]⟩
    case round =>
      obtain ⟨m, hm1, hm2, rfl, rfl⟩ := hrel
      by_cases hmk : m ≤ k
      · have e := FI.out (m - n)
        have h1 : (m : Int) ≤ (k : Int) := by omega
        have e3 : m + 1 - n = m - n + 1 := by omega
        generalize f (m - n) = x at *
        go_wp2
        go_round
        case rel => exact ⟨m + 1, by omega, by omega, by go_num, by rw [e3]⟩
        case measure => simp [intOf]; omega
      · obtain rfl : m = k + 1 := by omega
        have e : k + 1 - n = j + 1 := by have := J.out; omega
        rw [e]
        generalize f (j + 1) = x at *
        have h1 : ¬ ((k + 1 : Nat) : Int) ≤ (k : Int) := by omega
        go_wp2_with fail
        refine M.out.mono ?_
        rintro e w3 ⟨rfl, rfl⟩
        go_wp2
        go_ret
        exact ⟨rfl, rfl⟩
end Go.Proofs.YthbniikenenijaaDoor
