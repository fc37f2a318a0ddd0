/-
  New, Put, Drop, Get, Rank, At, Len and Deep of a tree of ints by their contracts, of a tree and of none.
-/
import Derived.Test.YtaoiadejafaleaaSeek
import Derived.Test.YtaoiadejafaleaaDrop
import Derived.OwnWalk
namespace Go.Proofs.Ytaoiadejafaleaa
open Go.RowKit
open Tr (node)
set_option maxHeartbeats 1000000 in
theorem seek_none (w : World) (k : Int) : Calls Try.prog 28 #[.pointer none, .int .i64 k] w fun e w' => e = .returned (.tuple #[.int .i64 0, .pointer none]) ∧ w' = w := by
  go_enter Try.func28, Try.ntmps28
  go_wp2_with fail
  refine (whole_none w).mono ?_
  rintro e w1 ⟨rfl, rfl⟩
  go_wp2_with fail
  go_loopw [6, 7] (fun i p wr => i = .int .i64 0 ∧ p = .pointer none ∧ wr = w1) (fun _ _ _ => 0)
  case atStart => exact ⟨rfl, rfl, rfl⟩
  case round =>
    obtain ⟨rfl, rfl, rfl⟩ := hrel
    go_wp2
    go_ret2
    exact ⟨rfl, rfl⟩
theorem get_none (w : World) (k : Int) : Calls Try.prog 13 #[.pointer none, .int .i64 k] w fun e w' => e = .returned (.tuple #[.int .i64 0, .bool false]) ∧ w' = w := by
  go_enter Try.func13, Try.ntmps13
  go_wp2_with fail
  refine (seek_none w k).mono ?_
  rintro e w1 ⟨rfl, rfl⟩
  go_wp2
  go_ret2
  exact ⟨rfl, rfl⟩
theorem rank_none (w : World) (k : Int) : Calls Try.prog 15 #[.pointer none, .int .i64 k] w fun e w' => e = .returned (.tuple #[.int .i64 0, .bool false]) ∧ w' = w := by
  go_enter Try.func15, Try.ntmps15
  go_wp2_with fail
  refine (seek_none w k).mono ?_
  rintro e w1 ⟨rfl, rfl⟩
  go_wp2
  go_ret2
  exact ⟨rfl, rfl⟩
section
variable {w : World} {g : Nat} {t : Tr} (h : At w g t)
include h
theorem get_some (k : Int) : Calls Try.prog 13 #[.pointer (some ⟨g, 0, none⟩), .int .i64 k] w fun e w' => e = .returned (.tuple #[.int .i64 ((look k t.list).getD 0), .bool (look k t.list).isSome]) ∧ ∃ m, w' = w.drewN m := by
  have S := Lib.hid (seek_some h k)
  clear h
  go_enter Try.func13, Try.ntmps13
  go_wp2_with fail
  refine S.out.mono ?_
  rintro e w1 ⟨p, rfl, hf, m, rfl⟩
  rcases hf.out with ⟨rfl, hl⟩ | ⟨b, v, l, r, rfl, hl, hp⟩
  · rw [Tr.addr_nil]
    have HL := Lib.hid hl
    clear hf hl
    go_wp2
    go_ret2
    exact ⟨by rw [HL.out]; rfl, _, rfl⟩
  · rw [Tr.addr_node]
    have HL := Lib.hid hl
    have c1 := (hp.drewN m).c1
    clear hf hl hp
    go_wp2
    go_ret2
    exact ⟨by rw [HL.out]; rfl, _, rfl⟩
theorem rank_some (k : Int) : Calls Try.prog 15 #[.pointer (some ⟨g, 0, none⟩), .int .i64 k] w fun e w' => e = .returned (.tuple #[.int .i64 ((lo k t.list).length : Int), .bool (look k t.list).isSome]) ∧ ∃ m, w' = w.drewN m := by
  have S := Lib.hid (seek_some h k)
  clear h
  go_enter Try.func15, Try.ntmps15
  go_wp2_with fail
  refine S.out.mono ?_
  rintro e w1 ⟨p, rfl, hf, m, rfl⟩
  rcases hf.out with ⟨rfl, hl⟩ | ⟨b, v, l, r, rfl, hl, hp⟩
  · rw [Tr.addr_nil]
    have HL := Lib.hid hl
    clear hf hl
    go_wp2
    go_ret2
    exact ⟨by rw [HL.out]; rfl, _, rfl⟩
  · rw [Tr.addr_node]
    have HL := Lib.hid hl
    clear hf hl hp
    go_wp2
    go_ret2
    exact ⟨by rw [HL.out]; rfl, _, rfl⟩
theorem len_some : Calls Try.prog 25 #[.pointer (some ⟨g, 0, none⟩)] w fun e w' => e = .returned (.int .i64 (t.list.length : Int)) ∧ w' = w := by
  have W := Lib.hid (whole_some h.c1)
  have C := Lib.hid (count_any h.lies)
  clear h
  generalize t.addr = ta at *
  generalize t.list.length = n at *
  go_enter Try.func25, Try.ntmps25
  go_wp2_with fail
  refine W.out.mono ?_
  rintro e w1 ⟨rfl, rfl⟩
  go_wp2_with fail
  refine C.out.mono ?_
  rintro e w1 ⟨rfl, rfl⟩
  go_wp2
  go_ret
  exact ⟨rfl, rfl⟩
theorem deepof_some : Calls Try.prog 18 #[.pointer (some ⟨g, 0, none⟩)] w fun e w' => e = .returned (.int .i64 (t.deep : Int)) ∧ w' = w := by
  have W := Lib.hid (whole_some h.c1)
  have C := Lib.hid (deep_any h.lies)
  clear h
  generalize t.addr = ta at *
  generalize t.deep = n at *
  go_enter Try.func18, Try.ntmps18
  go_wp2_with fail
  refine W.out.mono ?_
  rintro e w1 ⟨rfl, rfl⟩
  go_wp2_with fail
  refine C.out.mono ?_
  rintro e w1 ⟨rfl, rfl⟩
  go_wp2
  go_ret
  exact ⟨rfl, rfl⟩
set_option maxHeartbeats 1000000 in
theorem at_in (i : Nat) (hi : i < t.list.length) : Calls Try.prog 24 #[.pointer (some ⟨g, 0, none⟩), .int .i64 (i : Int)] w fun e w' => e = .returned (.tuple #[.int .i64 t.list[i].1, .int .i64 t.list[i].2, .bool true]) ∧ ∃ m, w' = w.drewN m := by
  have W := Lib.hid (whole_some h.c1)
  have X := Lib.hid h
  clear h
  obtain ⟨⟨k, v⟩, hkv⟩ : ∃ e, t.list[i] = e := ⟨_, rfl⟩
  rw [hkv]
  have G : Hid (t.list[i]? = some (k, v)) := by rw [List.getElem?_eq_getElem hi, hkv]; exact rfl
  have hlen := X.out.fits
  clear hkv hi
  go_enter Try.func24, Try.ntmps24
  go_wp2_with fail
  refine W.out.mono ?_
  rintro e w1 ⟨rfl, rfl⟩
  go_wp2_with fail
  go_loopw [1, 7] (fun x p wr => wr = w1 ∧ ∃ (q : Tr) (j : Nat), x = .int .i64 (j : Int) ∧ p = .pointer q.addr ∧ Hid (q.Lies w1 ∧ q.list.length < 1000000000000000000 ∧ q.list[j]? = some (k, v))) (fun _ p _ => Tr.many p w1)
  case atStart => exact ⟨rfl, t, i, rfl, rfl, Lib.hid ⟨X.out.lies, hlen, G.out⟩⟩
  case round =>
    obtain ⟨rfl, q, j, rfl, rfl, hq⟩ := hrel
    obtain ⟨h1, h2, h3⟩ := hq.out
    clear hq
    cases q with
    | nil => simp [Tr.list] at h3
    | node b k0 v0 l r =>
      have c0 := h1.c0
      have c1 := h1.c1
      have c2 := h1.c2
      have c3 := h1.c3
      have C := Lib.hid (count_any h1.2.1)
      have Z := Lib.hid h1
      rw [Tr.len_node] at h2
      rw [Tr.list_node] at h3
      rw [Tr.addr_node]
      rcases Nat.lt_trichotomy j l.list.length with hj | hj | hj
      · have Y : Hid (l.Lies wr ∧ l.list.length < 1000000000000000000 ∧ l.list[j]? = some (k, v)) := ⟨h1.2.1, by omega, by rw [← h3, List.getElem?_append_left hj]⟩
        clear h1 h2 h3
        go_wp2_with fail
        refine C.out.mono ?_
        rintro e w2 ⟨rfl, rfl⟩
        go_wp2
        go_roundw
        case rel => exact ⟨trivial, l, j, rfl, rfl, Y⟩
        case measure =>
          have e1 := Z.out.many
          have e2 := Y.out.1.many
          rw [Tr.addr_node] at e1
          rw [e1, e2, Tr.len_node b k0 v0]; omega
      · have Y : k0 = k ∧ v0 = v := by
          rw [List.getElem?_append_right (by omega), hj] at h3
          simpa using h3
        obtain ⟨rfl, rfl⟩ := Y
        clear h1 h2 h3
        go_wp2_with fail
        refine C.out.mono ?_
        rintro e w2 ⟨rfl, rfl⟩
        go_wp2_with fail
        go_quiet (fail)
        go_wp2
        go_ret3
        exact ⟨rfl, _, rfl⟩
      · have Y : Hid (r.Lies wr ∧ r.list.length < 1000000000000000000 ∧ r.list[j - (l.list.length + 1)]? = some (k, v)) := ⟨h1.2.2, by omega, by
          rw [List.getElem?_append_right (by omega)] at h3
          rw [← h3, show j - l.list.length = (j - (l.list.length + 1)) + 1 by omega, List.getElem?_cons_succ]⟩
        have hj2 : j < 2000000000000000000 := by
          have := (List.getElem?_eq_some_iff.1 Y.out.2.2).1
          omega
        clear h1 h2 h3
        go_wp2_with fail
        refine C.out.mono ?_
        rintro e w2 ⟨rfl, rfl⟩
        go_wp2
        go_roundw
        case rel => exact ⟨trivial, r, j - (l.list.length + 1), by congr 1; omega, rfl, Y⟩
        case measure =>
          have e1 := Z.out.many
          have e2 := Y.out.1.many
          rw [Tr.addr_node] at e1
          rw [e1, e2, Tr.len_node b k0 v0]; omega
set_option maxHeartbeats 1000000 in
theorem at_out (i : Int) (h1 : -9223372036854775808 ≤ i) (h2 : i ≤ 9223372036854775807) (hi : i < 0 ∨ (t.list.length : Int) ≤ i) : Calls Try.prog 24 #[.pointer (some ⟨g, 0, none⟩), .int .i64 i] w fun e w' => e = .returned (.tuple #[.int .i64 0, .int .i64 0, .bool false]) ∧ ∃ m, w' = w.drewN m := by
  have W := Lib.hid (whole_some h.c1)
  have X := Lib.hid h
  clear h
  have G := Lib.hid (And.intro h1 (And.intro h2 hi))
  have hlen := X.out.fits
  clear hi h1 h2
  go_enter Try.func24, Try.ntmps24
  go_wp2_with fail
  refine W.out.mono ?_
  rintro e w1 ⟨rfl, rfl⟩
  go_wp2_with fail
  go_loopw [1, 7] (fun x p wr => wr = w1 ∧ ∃ (q : Tr) (j : Int), x = .int .i64 j ∧ p = .pointer q.addr ∧ Hid (q.Lies w1 ∧ q.list.length < 1000000000000000000 ∧ -9223372036854775808 ≤ j ∧ j ≤ 9223372036854775807 ∧ (j < 0 ∨ (q.list.length : Int) ≤ j))) (fun _ p _ => Tr.many p w1)
  case atStart => exact ⟨rfl, t, i, rfl, rfl, Lib.hid ⟨X.out.lies, hlen, G.out⟩⟩
  case round =>
    obtain ⟨rfl, q, j, rfl, rfl, hq⟩ := hrel
    obtain ⟨h1, h2, h3, h4, h5⟩ := hq.out
    clear hq
    cases q with
    | nil =>
      rw [Tr.addr_nil]
      clear h1 h2 h3 h4 h5
      go_wp2
      go_ret3
      exact ⟨rfl, 0, rfl⟩
    | node b k0 v0 l r =>
      have c0 := h1.c0
      have c1 := h1.c1
      have c2 := h1.c2
      have c3 := h1.c3
      have C := Lib.hid (count_any h1.2.1)
      have Z := Lib.hid h1
      rw [Tr.len_node] at h2 h5
      rw [Tr.addr_node]
      by_cases hj : j < (l.list.length : Int)
      · have Y : Hid (l.Lies wr ∧ l.list.length < 1000000000000000000 ∧ -9223372036854775808 ≤ j ∧ j ≤ 9223372036854775807 ∧ (j < 0 ∨ (l.list.length : Int) ≤ j)) := ⟨h1.2.1, by omega, h3, h4, by omega⟩
        clear h1 h2 h3 h4 h5
        go_wp2_with fail
        refine C.out.mono ?_
        rintro e w2 ⟨rfl, rfl⟩
        go_wp2
        go_roundw
        case rel => exact ⟨trivial, l, j, rfl, rfl, Y⟩
        case measure =>
          have e1 := Z.out.many
          have e2 := Y.out.1.many
          rw [Tr.addr_node] at e1
          rw [e1, e2, Tr.len_node b k0 v0]; omega
      · have hj1 : (l.list.length : Int) < j := by omega
        have Y : Hid (r.Lies wr ∧ r.list.length < 1000000000000000000 ∧ -9223372036854775808 ≤ j - ((l.list.length : Int) + 1) ∧ j - ((l.list.length : Int) + 1) ≤ 9223372036854775807 ∧ (j - ((l.list.length : Int) + 1) < 0 ∨ (r.list.length : Int) ≤ j - ((l.list.length : Int) + 1))) := ⟨h1.2.2, by omega, by omega, by omega, by omega⟩
        have hj2 : j ≤ 9223372036854775807 := h4
        have hj3 : l.list.length < 1000000000000000000 := by omega
        clear h1 h2 h3 h4 h5
        go_wp2_with fail
        refine C.out.mono ?_
        rintro e w2 ⟨rfl, rfl⟩
        go_wp2
        go_roundw
        case rel => exact ⟨trivial, r, j - ((l.list.length : Int) + 1), rfl, rfl, Y⟩
        case measure =>
          have e1 := Z.out.many
          have e2 := Y.out.1.many
          rw [Tr.addr_node] at e1
          rw [e1, e2, Tr.len_node b k0 v0]; omega
end
end Go.Proofs.Ytaoiadejafaleaa
