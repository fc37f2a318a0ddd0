/-
  FnvSums walked: for every word, every slice of bytes and every place it returns true; what was in memory stays.
-/
import Derived.Test.YtjigobalghckdaaBack
import Derived.Deep.RegionHeld3
namespace Go.Proofs.Ytjigobalghckdaa
open Go.ChangeShapes Go.WideShapes Go.ChangeAt Go.RowKit
theorem bnext {B : Nat} {w w1 w2 : World} (h : Below B w w1) (h2 : Below w1.heap.size w1 w2) (hB : B ≤ w1.heap.size := by exact Below.size ‹_›) : Below B w w2 := h.trans (h2.mono hB)
theorem cell_lt {w : World} {a : Addr} {v : Value} (h : w.cell? a = some v) : a.block < w.heap.size := by
  rcases Nat.lt_or_ge a.block w.heap.size with h' | h'
  · exact h'
  · have : w.heap[a.block]? = none := by simp [h']
    simp [World.cell?, this] at h
theorem Row.lt {w : World} {a : Option Addr} {n : Nat} {l : List Nat} (h : Row w a n l) (hn : 0 < n) : ∀ x, a = some x → x.block < w.heap.size := by
  obtain ⟨b, off, rfl, hc⟩ := h.2 hn
  intro x hx
  injection hx with hx
  subst hx
  exact cell_lt (hc 0 hn)
theorem Row.below {w w' : World} {a : Option Addr} {n : Nat} {l : List Nat} (h : Row w a n l) (hb : Below w.heap.size w w') : Row w' a n l := by
  refine ⟨h.1, fun hn => ?_⟩
  have ha := h.lt hn
  obtain ⟨b, off, rfl, hcell⟩ := h.2 hn
  exact ⟨b, off, rfl, fun i hi => (hb.cell (p := ⟨b, off + i, none⟩) (show b < w.heap.size from ha ⟨b, off, none⟩ rfl)).trans (hcell i hi)⟩
theorem Row.drop {w : World} {b off n k : Nat} {l : List Nat} (h : Row w (some ⟨b, off, none⟩) n l) (hk : k ≤ n) : Row w (some ⟨b, off + k, none⟩) (n - k) (l.drop k) := by
  refine ⟨by rw [List.length_drop, h.1], fun _ => ⟨b, off + k, rfl, fun i hi => ?_⟩⟩
  obtain ⟨b', off', e, hc⟩ := h.2 (by omega)
  injection e with e
  injection e with e1 e2
  subst e1 e2
  have := hc (k + i) (by omega)
  rw [← Nat.add_assoc] at this
  rw [this]
  simp [List.getD, List.getElem?_drop]
theorem Row.take {w : World} {a : Option Addr} {n k : Nat} {l : List Nat} (h : Row w a n l) (hk : k ≤ n) : Row w a k (l.take k) := by
  refine ⟨by rw [List.length_take, h.1]; omega, fun hp => ?_⟩
  obtain ⟨b, off, e, hc⟩ := h.2 (by omega)
  exact ⟨b, off, e, fun i hi => by rw [hc i (by omega)]; simp [List.getD, hi]⟩
theorem Row.none_ (w : World) (a : Option Addr) : Row w a 0 [] := ⟨rfl, fun h => absurd h (by omega)⟩
/-- a place below n. -/
theorem place_of (at_ n : Nat) (h0 : 0 < n) (hn : n ≤ 2000) : ∃ k : Nat, wrap64 ((at_ : Int) % (n : Int)) = (k : Int) ∧ k < n := by
  have h := Nat.mod_lt at_ h0
  have e : ((at_ : Int) % (n : Int)) = ((at_ % n : Nat) : Int) := by simp
  exact ⟨at_ % n, by rw [e]; unfold wrap64; omega, h⟩
/-- what each call of the law keeps: the argument can be made a string, and all else of w stands. -/
def Kept (w : World) (a : Option Addr) (n cap : Nat) (s : ByteArray) (w' : World) : Prop := (convert 23 9 (.slice a n cap)).run Try.prog w' = .ok (.string s) w' ∧ Below w.heap.size w w'
theorem kept_of {w w' : World} {a : Option Addr} {n cap : Nat} {l : List Nat} (h : Row w a n l) (hb : Below w.heap.size w w') : Kept w a n cap (str l) w' := ⟨string_of_row w' a n cap l (h.below hb), hb⟩
set_option maxHeartbeats 3200000 in
set_option maxRecDepth 100000 in
theorem sums_some (h : Nat) (b off n cap : Nat) (l : List Nat) (at_ : Nat) (w : World) (hr : Row w (some ⟨b, off, none⟩) n l) (hl : bytes l) (hh : h < 18446744073709551616) (ha : at_ < 18446744073709551616) (h0 : 0 < n) (hn : n ≤ 2000) (hcap : n ≤ cap) :
    Calls Try.prog 3 #[.int .u64 h, .slice (some ⟨b, off, none⟩) n cap, .int .u64 at_] w fun e w' => e = .returned (.bool true) ∧ Below w.heap.size w w' := by
  obtain ⟨k, hk, hkn⟩ : ∃ k : Nat, wrap64 ((at_ : Int) % (n : Int)) = (k : Int) ∧ k < n := place_of at_ n h0 hn
  have hne : ¬ cap = k := by omega
  have i1 : (0 : Int) ≤ (k : Int) := by omega
  have i2 : (k : Int) ≤ (n : Int) := by omega
  have i3 : (k : Int) ≤ (cap : Int) := by omega
  have hcv : IntKind.u64.wrap (n : Int) = (n : Int) := by rw [IntKind.wrap_u64]; omega
  obtain ⟨g, hg⟩ : ∃ g, gon h l = g := ⟨_, rfl⟩
  obtain ⟨g1, hg1⟩ : ∃ g, gon h (l.take k) = g := ⟨_, rfl⟩
  obtain ⟨t, ht⟩ : ∃ t, gon 14695981039346656037 l = t := ⟨_, rfl⟩
  obtain ⟨s, hs⟩ : ∃ s, str l = s := ⟨_, rfl⟩
  have hgl : g1 < 18446744073709551616 := by rw [← hg1]; exact gon_lt _ _ hh
  have hsl : s.size ≤ 4611686018427387904 := by rw [← hs, str_size, hr.1]; omega
  have hsc : Codes s l := hs ▸ str_codes l hl
  have K0 : Hid (Kept w (some ⟨b, off, none⟩) n cap s w.drew) := hs ▸ kept_of hr (Below.refl _ _).drew
  have T1 : Hid (∀ w', Below w.heap.size w w' → Calls Try.prog 7 #[.int .u64 h, .slice (some ⟨b, off, none⟩) n cap] w' fun e w'' => e = .returned (.int .u64 (g : Nat)) ∧ Kept w (some ⟨b, off, none⟩) n cap s w'') := fun w' hb =>
    (go_any h _ n cap l w' hh (hr.below hb) hl (by omega)).mono fun _ _ ⟨he, hw⟩ => ⟨by rw [he, hg], hw ▸ hs ▸ kept_of hr hb⟩
  have T2 : Hid (∀ w', Below w.heap.size w w' → Calls Try.prog 8 #[.int .u64 h, .slice (some ⟨b, off, none⟩) n cap] w' fun e w'' => e = .returned (.int .u64 (g : Nat)) ∧ Kept w (some ⟨b, off, none⟩) n cap s w'') := fun w' hb =>
    (refgo_any h _ n cap l w' hh (hr.below hb) hl (by omega)).mono fun _ _ ⟨he, hw⟩ => ⟨by rw [he, hg], hw ▸ hs ▸ kept_of hr hb⟩
  have T3 : Hid (∀ w' c, Below w.heap.size w w' → Calls Try.prog 7 #[.int .u64 h, .slice (some ⟨b, off, none⟩) k c] w' fun e w'' => e = .returned (.int .u64 (g1 : Nat)) ∧ Kept w (some ⟨b, off, none⟩) n cap s w'') := fun w' c hb =>
    (go_any h _ k c (l.take k) w' hh ((hr.below hb).take (by omega)) (bytes_take hl k) (by omega)).mono fun _ _ ⟨he, hw⟩ => ⟨by rw [he, hg1], hw ▸ hs ▸ kept_of hr hb⟩
  have T4 : Hid (∀ w' c, Below w.heap.size w w' → Calls Try.prog 7 #[.int .u64 g1, .slice (some ⟨b, off + k, none⟩) (n - k) c] w' fun e w'' => e = .returned (.int .u64 (g : Nat)) ∧ Kept w (some ⟨b, off, none⟩) n cap s w'') := fun w' c hb =>
    (go_any g1 _ (n - k) c (l.drop k) w' hgl ((hr.below hb).drop (by omega)) (bytes_drop hl k) (by omega)).mono fun _ _ ⟨he, hw⟩ => ⟨by rw [he, ← hg1, gon_parts, hg], hw ▸ hs ▸ kept_of hr hb⟩
  have T5 : Hid (∀ w', Below w.heap.size w w' → Calls Try.prog 9 #[.string s] w' fun e w'' => e = .returned (.int .u64 (t : Nat)) ∧ Kept w (some ⟨b, off, none⟩) n cap s w'') := fun w' hb =>
    (text_any s l w' hsc hl hsl).mono fun _ _ ⟨he, hw⟩ => ⟨by rw [he, ht], hw ▸ hs ▸ kept_of hr hb⟩
  have T6 : Hid (∀ w', Below w.heap.size w w' → Calls Try.prog 10 #[.string s] w' fun e w'' => e = .returned (.int .u64 (t : Nat)) ∧ Kept w (some ⟨b, off, none⟩) n cap s w'') := fun w' hb =>
    (reftext_any s l w' hsc hl hsl).mono fun _ _ ⟨he, hw⟩ => ⟨by rw [he, ht], hs ▸ kept_of hr (bnext hb hw)⟩
  have T7 : Hid (∀ w', Below w.heap.size w w' → Calls Try.prog 6 #[] w' fun e w'' => e = .returned (.bool true) ∧ Kept w (some ⟨b, off, none⟩) n cap s w'') := fun w' hb =>
    (awake_any w').mono fun _ _ ⟨he, hw⟩ => ⟨he, hw ▸ hs ▸ kept_of hr hb⟩
  clear hg hg1 ht hs hsc hr hl
  go_enter Try.func3, Try.ntmps3
  go_wp2_with fail
  go_region_held3 (fun w' => (convert 23 9 (.slice (some ⟨b, off, none⟩) n cap)).run Try.prog w' = .ok (.string s) w' ∧ Below w.heap.size w w') (first | exact K0.out | assumption) (first
    | (go_at_call_of 7 (Value.slice (some ⟨b, off, none⟩) n cap); refine (T1.out _ hk4.2).mono ?_; rintro e w5 ⟨rfl, hk5⟩)
    | (go_at_call_of 7 (Value.slice (some ⟨b, off, none⟩) n cap); refine (T1.out _ K0.out.2).mono ?_; rintro e w1 ⟨rfl, hk1⟩)
    | (go_at_call 8; refine (T2.out _ hk1.2).mono ?_; rintro e w2 ⟨rfl, hk2⟩)
    | (go_at_call_of 7 (Value.int IntKind.u64 (g1 : Int)); refine (T4.out _ _ hk3.2).mono ?_; rintro e w4 ⟨rfl, hk4⟩)
    | (go_at_call_of 7 (Value.int IntKind.u64 (h : Int)); refine (T3.out _ _ hk2.2).mono ?_; rintro e w3 ⟨rfl, hk3⟩)
    | (go_at_call 9; refine (T5.out _ hk5.2).mono ?_; rintro e w6 ⟨rfl, hk6⟩)
    | (go_at_call 10; refine (T6.out _ hk6.2).mono ?_; rintro e w7 ⟨rfl, hk7⟩)
    | (go_at_call 6; refine (T7.out _ hk7.2).mono ?_; rintro e w8 ⟨rfl, hk8⟩))
  go_wp2
  go_ret
  exact ⟨rfl, hk8.2⟩
theorem elem23 : Try.prog.underlying 23 = some (.slice (Try.prog.elem 23)) := by kernel_rfl
theorem size23 (w : World) : (sizeOf (Try.prog.elem 23)).run Try.prog w = .ok 1 w := by kernel_rfl
theorem cut_none_h (a : Option Addr) (cap : Nat) : ∃ a2 : Option Addr, ∀ w', (Instr.slice 23 (.slice a 0 cap) none (some (.int .i64 0)) none).run Try.prog w' = .ok (.slice a2 0 cap) w' :=
  ⟨_, fun w' => by rw [run_slice_h w' 23 a 0 cap elem23 .i64 0 (by omega) (by omega), size23]; rfl⟩
theorem cut_none_l (a : Option Addr) (cap : Nat) : ∃ a2 : Option Addr, ∀ w', (Instr.slice 23 (.slice a 0 cap) (some (.int .i64 0)) none none).run Try.prog w' = .ok (.slice a2 0 cap) w' :=
  ⟨_, fun w' => by rw [run_slice_l w' 23 a 0 cap elem23 .i64 0 (by omega) (by omega), size23]; rfl⟩
set_option maxHeartbeats 3200000 in
set_option maxRecDepth 100000 in
theorem sums_none (h : Nat) (a : Option Addr) (cap at_ : Nat) (w : World) (hh : h < 18446744073709551616) :
    Calls Try.prog 3 #[.int .u64 h, .slice a 0 cap, .int .u64 at_] w fun e w' => e = .returned (.bool true) ∧ Below w.heap.size w w' := by
  have hr := Row.none_ w a
  have hl : bytes [] := fun _ h => by cases h
  obtain ⟨t, ht⟩ : ∃ t, gon 14695981039346656037 [] = t := ⟨_, rfl⟩
  obtain ⟨s, hs⟩ : ∃ s, str [] = s := ⟨_, rfl⟩
  have hsl : s.size ≤ 4611686018427387904 := by rw [← hs, str_size]; decide
  have hsc : Codes s [] := hs ▸ str_codes [] hl
  have K0 : Hid (Kept w a 0 cap s w.drew) := hs ▸ kept_of hr (Below.refl _ _).drew
  have T1 : Hid (∀ w' a' c, Below w.heap.size w w' → Calls Try.prog 7 #[.int .u64 h, .slice a' 0 c] w' fun e w'' => e = .returned (.int .u64 (h : Nat)) ∧ Kept w a 0 cap s w'') := fun w' a' c hb =>
    (go_any h a' 0 c [] w' hh (Row.none_ _ _) hl (by omega)).mono fun _ _ ⟨he, hw⟩ => ⟨by rw [he, gon_nil], hw ▸ hs ▸ kept_of hr hb⟩
  have T2 : Hid (∀ w' a' c, Below w.heap.size w w' → Calls Try.prog 8 #[.int .u64 h, .slice a' 0 c] w' fun e w'' => e = .returned (.int .u64 (h : Nat)) ∧ Kept w a 0 cap s w'') := fun w' a' c hb =>
    (refgo_any h a' 0 c [] w' hh (Row.none_ _ _) hl (by omega)).mono fun _ _ ⟨he, hw⟩ => ⟨by rw [he, gon_nil], hw ▸ hs ▸ kept_of hr hb⟩
  have T5 : Hid (∀ w', Below w.heap.size w w' → Calls Try.prog 9 #[.string s] w' fun e w'' => e = .returned (.int .u64 (t : Nat)) ∧ Kept w a 0 cap s w'') := fun w' hb =>
    (text_any s [] w' hsc hl hsl).mono fun _ _ ⟨he, hw⟩ => ⟨by rw [he, ht], hw ▸ hs ▸ kept_of hr hb⟩
  have T6 : Hid (∀ w', Below w.heap.size w w' → Calls Try.prog 10 #[.string s] w' fun e w'' => e = .returned (.int .u64 (t : Nat)) ∧ Kept w a 0 cap s w'') := fun w' hb =>
    (reftext_any s [] w' hsc hl hsl).mono fun _ _ ⟨he, hw⟩ => ⟨by rw [he, ht], hs ▸ kept_of hr (bnext hb hw)⟩
  have T7 : Hid (∀ w', Below w.heap.size w w' → Calls Try.prog 6 #[] w' fun e w'' => e = .returned (.bool true) ∧ Kept w a 0 cap s w'') := fun w' hb =>
    (awake_any w').mono fun _ _ ⟨he, hw⟩ => ⟨he, hw ▸ hs ▸ kept_of hr hb⟩
  have i1 : (0 : Int) ≤ (cap : Int) := by omega
  obtain ⟨a1, r1⟩ := cut_none_h a cap
  obtain ⟨a2, r2⟩ := cut_none_l a cap
  clear ht hs hsc hr hl
  go_enter Try.func3, Try.ntmps3
  go_wp2_with fail
  go_region_held3 (fun w' => (convert 23 9 (.slice a 0 cap)).run Try.prog w' = .ok (.string s) w' ∧ Below w.heap.size w w') (first | exact K0.out | assumption) (first
    | (go_at_call 7; refine (T1.out _ _ _ hk4.2).mono ?_; rintro e w5 ⟨rfl, hk5⟩)
    | (go_at_call 7; refine (T1.out _ _ _ hk3.2).mono ?_; rintro e w4 ⟨rfl, hk4⟩)
    | (go_at_call 7; refine (T1.out _ _ _ hk2.2).mono ?_; rintro e w3 ⟨rfl, hk3⟩)
    | (go_at_call 7; refine (T1.out _ _ _ K0.out.2).mono ?_; rintro e w1 ⟨rfl, hk1⟩)
    | (go_at_call 8; refine (T2.out _ _ _ hk1.2).mono ?_; rintro e w2 ⟨rfl, hk2⟩)
    | (go_at_call 9; refine (T5.out _ hk5.2).mono ?_; rintro e w6 ⟨rfl, hk6⟩)
    | (go_at_call 10; refine (T6.out _ hk6.2).mono ?_; rintro e w7 ⟨rfl, hk7⟩)
    | (go_at_call 6; refine (T7.out _ hk7.2).mono ?_; rintro e w8 ⟨rfl, hk8⟩))
  go_wp2
  go_ret
  exact ⟨rfl, hk8.2⟩
theorem sums_walk (h : Nat) (a : Option Addr) (n cap : Nat) (l : List Nat) (at_ : Nat) (w : World) (hr : Row w a n l) (hl : bytes l) (hh : h < 18446744073709551616) (ha : at_ < 18446744073709551616) (hcap : n ≤ cap) :
    Calls Try.prog 3 #[.int .u64 h, .slice a n cap, .int .u64 at_] w fun e w' => e = .returned (.bool true) ∧ Below w.heap.size w w' := by
  by_cases hn : n ≤ 2000
  · rcases Nat.eq_zero_or_pos n with h0 | h0
    · subst h0
      exact sums_none h a cap at_ w hh
    · obtain ⟨b, off, rfl, _⟩ := hr.2 h0
      exact sums_some h b off n cap l at_ w hr hl hh ha h0 hn hcap
  · have hni : (2000 : Int) < (n : Int) := by omega
    clear hr hl
    go_enter Try.func3, Try.ntmps3
    go_wp2_with fail
    refine (awake_any _).mono ?_
    rintro e w1 ⟨rfl, rfl⟩
    go_wp2
    go_ret
    exact ⟨rfl, Below.refl _ _⟩
end Go.Proofs.Ytjigobalghckdaa
