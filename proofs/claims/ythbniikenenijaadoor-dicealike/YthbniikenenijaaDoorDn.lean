/-
  kept, New, draw, Next and Below of package dice by their contracts, for every dice whose table of steps lies as it was laid.
-/
import Derived.Test.YthbniikenenijaaDoorDc
import Derived.Deep.RegionHeld3
import Derived.Deep.QuietTactic
import Derived.Lib.MinMax
namespace Go.Proofs.YthbniikenenijaaDoor
open Go.RowKit
/-- a list of one's own, without room behind it. -/
def Kp (w : World) (q : Option Addr) (xs : List Int) (B : World) : Prop := La B q xs ∧ (∀ b o, q = some ⟨b, o, none⟩ → w.heap.size ≤ b) ∧ Below w.heap.size w B
set_option maxHeartbeats 1000000 in
theorem kept15 (a : Option Addr) (xs : List Int) (cap : Nat) (w : World) (hn : a = none → xs = []) (hl : xs.length ≤ 17592186044415) (hr : La w a xs) :
    Calls Tryd.prog 15 #[.slice a xs.length cap] w fun e B => ∃ q, e = .returned (.slice q xs.length xs.length) ∧ Hid (Kp w q xs B) := by
  have C := Lib.hid (clone18 a xs cap w hn hl hr)
  clear hr hn
  have E : Hid (∀ q B, La B q xs → (∀ b o, q = some ⟨b, o, none⟩ → w.heap.size ≤ b) → Below w.heap.size w B → Kp w q xs B) := fun q B h1 h2 h3 => ⟨h1, h2, h3⟩
  obtain ⟨n, hn⟩ : ∃ n, xs.length = n := ⟨_, rfl⟩
  have C' : Hid (Calls Tryd.prog 18 #[.slice a n cap] w fun e B => ∃ v, e = .returned v ∧ ∃ q c, v = .slice q n c ∧ n ≤ c ∧ Hid (Kp w q xs B)) := by
    rw [← hn]
    exact C.out.mono fun e B ⟨v, he, q, c, hv, hc, h1, h2, h3⟩ => ⟨v, he, q, c, hv, hc, E.out q B h1 h2 h3⟩
  rw [hn]
  clear hn C E hl
  go_enter Tryd.func15, Tryd.ntmps15
  go_wp2_with fail
  refine C'.out.mono ?_
  rintro e w1 ⟨v, rfl, q, c, rfl, hc, K⟩
  clear C'
  have i1 : (0 : Int) ≤ (n : Int) := by omega
  have i2 : (n : Int) ≤ (n : Int) := by omega
  have i3 : (n : Int) ≤ (c : Int) := by omega
  go_wp2
  go_ret
  exact ⟨q, rfl, K⟩
/-- dice that were made: new memory. -/
def Nw (w : World) (D : Nat) (q : Option Addr) (xs : List Int) (s u : Nat) (B : World) : Prop := Dc 39 xs.length B D q xs s u ∧ w.heap.size ≤ D ∧ (∀ b o, q = some ⟨b, o, none⟩ → w.heap.size ≤ b) ∧ Below w.heap.size w B
theorem Kp.box {w B : World} {q : Option Addr} {xs : List Int} {s u : Nat} (h : Kp w q xs B) (hl : xs.length ≤ 17592186044416) (hs : s < 18446744073709551616) : Nw w B.heap.size q xs s u (B.alloc (.cells #[.slice q xs.length xs.length, .int .u64 (s : Int), .int .i64 (u : Int)] 39)) := by
  refine ⟨⟨heap_next rfl _, h.1.below (Below.alloc (Below.refl _ _) (Nat.le_refl _) _), fun b o hq h0 => ?_, hl, hs⟩, h.2.2.size, h.2.1, h.2.2.alloc h.2.2.size _⟩
  obtain ⟨b', o', hq', hi⟩ := h.1 h0
  rw [hq] at hq'
  obtain ⟨rfl, rfl⟩ : b = b' ∧ o = o' := by simpa using hq'
  have := World.block_lt_of_cell? B ⟨b, o + 0, none⟩ (hi 0 h0)
  show b ≠ B.heap.size
  have h2 : b < B.heap.size := this
  omega
set_option maxHeartbeats 1000000 in
theorem new6 (a : Option Addr) (xs : List Int) (cap s : Nat) (w : World) (hn : a = none → xs = []) (hl : xs.length ≤ 17592186044415) (hr : La w a xs) (hs : s < 18446744073709551616) :
    Calls Tryd.prog 6 #[.slice a xs.length cap, .int .u64 (s : Int)] w fun e B => ∃ D q, e = .returned (.pointer (some ⟨D, 0, none⟩)) ∧ Hid (Nw w D q xs s 0 B) := by
  have C := Lib.hid (kept15 a xs cap w hn hl hr)
  clear hr hn
  have E : Hid (∀ q B, Hid (Kp w q xs B) → Nw w B.heap.size q xs s 0 (B.alloc (.cells #[.slice q xs.length xs.length, .int .u64 (s : Int), .int .i64 0] 39))) := fun q B h => h.out.box (u := 0) (by omega) hs
  obtain ⟨n, hn⟩ : ∃ n, xs.length = n := ⟨_, rfl⟩
  rw [hn] at C E ⊢
  clear hn hl hs
  go_enter Tryd.func6, Tryd.ntmps6
  go_wp2_with fail
  refine C.out.mono ?_
  rintro e w1 ⟨q, rfl, K⟩
  clear C
  go_wp2
  go_ret
  exact ⟨_, q, rfl, E.out q _ K⟩
/-- the words of the product and of the sum. -/
theorem st_expr (s j : Nat) : IntKind.u64.wrap ((s : Int) + IntKind.u64.wrap (11400714819323198485 * ((j : Int) + 1))) = ((s + 11400714819323198485 * (j + 1)) % 18446744073709551616 : Nat) := by
  rw [IntKind.wrap_u64, IntKind.wrap_u64]
  omega
set_option maxHeartbeats 1000000 in
theorem draw16 {w : World} {D cap : Nat} {q : Option Addr} {xs : List Int} {s u : Nat} (h : Dc 39 cap w D q xs s u) (ht : mx.Steps w) (k : Nat) (hk : k ≤ 1099511627776) :
    Calls Tryd.prog 16 #[.pointer (some ⟨D, 0, none⟩), .int .i64 (k : Int)] w fun e B => e = .returned (.int .u64 (dr xs s k : Nat)) ∧ Hid (Below w.heap.size w B) := by
  have c0 := h.c0
  have c1 := h.c1
  have hl := h.len
  by_cases hlt : k < xs.length
  · obtain ⟨b, o, rfl, hi⟩ := h.lst (by omega)
    have hc := hi k hlt
    have e : dr xs s k = (xs[k] % 18446744073709551616).toNat := by unfold dr; rw [dif_pos hlt]
    have e2 : IntKind.u64.wrap xs[k] = ((dr xs s k : Nat) : Int) := by rw [e, IntKind.wrap_u64]; omega
    generalize dr xs s k = y at *
    generalize xs[k] = x at *
    clear hi h ht e
    generalize xs.length = n at *
    have i1 : (k : Int) - (n : Int) < 0 := by omega
    have i2 : (k : Int) < (n : Int) := by omega
    have i3 : (0 : Int) ≤ (k : Int) := by omega
    go_enter Tryd.func16, Tryd.ntmps16
    go_wp2
    go_ret
    exact ⟨rfl, Below.refl _ _⟩
  · obtain ⟨j, hj⟩ : ∃ j, k = xs.length + j := ⟨k - xs.length, by omega⟩
    have e : dr xs s k = mx.mixN ((s + 11400714819323198485 * (j + 1)) % 18446744073709551616) := by
      unfold dr
      rw [dif_neg hlt, show k - xs.length = j by omega]
    have hx : (s + 11400714819323198485 * (j + 1)) % 18446744073709551616 < 18446744073709551616 := by omega
    have M := Lib.hid (mx.mix_any _ hx w w (mx.Since.start ht))
    have e2 := st_expr s j
    rw [← e] at M
    generalize dr xs s k = y at *
    generalize (s + 11400714819323198485 * (j + 1)) % 18446744073709551616 = z at *
    clear h ht e
    obtain ⟨n, hn⟩ : ∃ n, xs.length = n := ⟨_, rfl⟩
    rw [hn] at hj c0 hl
    have hj' : j ≤ 1099511627776 := by omega
    have i1 : (k : Int) - (n : Int) = (j : Int) := by omega
    clear hn hlt
    have J := Lib.hid hj
    clear hj
    go_enter Tryd.func16, Tryd.ntmps16
    go_wp2_with fail
    refine M.out.mono ?_
    rintro e w1 ⟨rfl, hb⟩
    go_wp2
    go_ret
    exact ⟨rfl, hb.2⟩
theorem mx.Steps.keep {K : Nat → Prop} {w w' : World} (h : mx.Steps w) (hk : Keep K w w') (h0 : K 0) : mx.Steps w' := ⟨Nat.lt_of_lt_of_le h.1 hk.size, fun i hi => (hk.cell (p := ⟨0, i, none⟩) h.1 h0).trans (h.2 i hi)⟩
theorem mx.Steps.below {w w' : World} (h : mx.Steps w) (hb : Below w.heap.size w w') : mx.Steps w' := h.keep (K := fun _ => True) (.of_below hb) trivial
/-- what a draw leaves behind. -/
def Go1 (t cap : Nat) (w : World) (D : Nat) (q : Option Addr) (xs : List Int) (s u : Nat) (B : World) : Prop := Dc t cap B D q xs s u ∧ Keep (fun k => k ≠ D) w B
theorem Dc.next {t cap : Nat} {w w1 : World} {D : Nat} {q : Option Addr} {xs : List Int} {s u : Nat} (h : Dc t cap w D q xs s u) (hb : Below w.heap.size w w1) : Go1 t cap w D q xs s (u + 1) (w1.setCell ⟨D, 2, none⟩ (.int .i64 ((u + 1 : Nat) : Int))) :=
  ⟨(h.below hb).step, (Keep.of_below hb).trans (Keep.setCell _ _ _ (by simp))⟩
set_option maxHeartbeats 1000000 in
theorem next7 {w : World} {D cap : Nat} {q : Option Addr} {xs : List Int} {s u : Nat} (h : Dc 39 cap w D q xs s u) (ht : mx.Steps w) (hu : u ≤ 1000000) :
    Calls Tryd.prog 7 #[.pointer (some ⟨D, 0, none⟩)] w fun e B => e = .returned (.int .u64 (dr xs s u : Nat)) ∧ Hid (Go1 39 cap w D q xs s (u + 1) B) := by
  have T := Lib.hid (draw16 h ht u (by omega))
  have c2 := h.c2
  have H := Lib.hid h
  clear h ht
  generalize dr xs s u = y at *
  go_enter Tryd.func7, Tryd.ntmps7
  go_wp2_with fail
  refine T.out.mono ?_
  rintro e w1 ⟨rfl, hb⟩
  have d2 := (H.out.below hb.out).c2
  have g2 := (H.out.below hb.out).f2
  have E := Lib.hid (H.out.next hb.out)
  clear T H c2 hb
  have eu : ((u + 1 : Nat) : Int) = (u : Int) + 1 := by omega
  rw [eu] at E
  clear eu
  go_wp2
  go_ret
  exact ⟨rfl, E⟩
/-- .. and how many were drawn, and what is told, below n. -/
def unx (u : Nat) (n : Int) : Nat := if n < 1 then u else u + 1
def vlx (xs : List Int) (s u : Nat) (n : Int) : Int := if n < 1 then 0 else ((dr xs s u % n.toNat : Nat) : Int)
theorem vlx_lt (xs : List Int) (s u : Nat) (n : Int) (h : 1 ≤ n) : 0 ≤ vlx xs s u n ∧ vlx xs s u n < n := by
  unfold vlx
  rw [if_neg (by omega)]
  have := Nat.mod_lt (dr xs s u) (show 0 < n.toNat by omega)
  omega
set_option maxHeartbeats 1000000 in
theorem below9 {w : World} {D cap : Nat} {q : Option Addr} {xs : List Int} {s u : Nat} (h : Dc 39 cap w D q xs s u) (ht : mx.Steps w) (hu : u ≤ 1000000) (n : Int) (hn : n < 9223372036854775808) :
    Calls Tryd.prog 9 #[.pointer (some ⟨D, 0, none⟩), .int .i64 n] w fun e B => e = .returned (.int .i64 (vlx xs s u n)) ∧ Hid (Go1 39 cap w D q xs s (unx u n) B) := by
  by_cases h1 : n < 1
  · have E : Hid (Go1 39 cap w D q xs s (unx u n) w) := ⟨by unfold unx; rw [if_pos h1]; exact h, Keep.refl _ _⟩
    have e : vlx xs s u n = 0 := by unfold vlx; rw [if_pos h1]
    rw [e]
    clear h e
    go_enter Tryd.func9, Tryd.ntmps9
    go_wp2
    go_ret
    exact ⟨rfl, E⟩
  · have T := Lib.hid (next7 h ht hu)
    have e : vlx xs s u n = ((dr xs s u % n.toNat : Nat) : Int) := by unfold vlx; rw [if_neg h1]
    have e2 : unx u n = u + 1 := by unfold unx; rw [if_neg h1]
    rw [e, e2]
    obtain ⟨m, rfl⟩ : ∃ m : Nat, n = (m : Int) := ⟨n.toNat, by omega⟩
    have hm : 0 < m ∧ m < 9223372036854775808 := by omega
    rw [Int.toNat_natCast]
    have hy := dr_lt xs s u
    have hr := Nat.mod_lt (dr xs s u) hm.1
    have w1 : IntKind.u64.wrap (m : Int) = (m : Int) := by rw [IntKind.wrap_u64]; omega
    generalize dr xs s u = y at *
    have w2 : IntKind.i64.wrap ((y : Int) % (m : Int)) = ((y % m : Nat) : Int) := by rw [IntKind.wrap_i64]; omega
    clear h e e2
    go_enter Tryd.func9, Tryd.ntmps9
    go_wp2_with fail
    refine T.out.mono ?_
    rintro e w3 ⟨rfl, E⟩
    clear T
    go_wp2
    go_ret
    exact ⟨rfl, E⟩
end Go.Proofs.YthbniikenenijaaDoor
