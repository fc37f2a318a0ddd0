/-
  pool.New[int], (*Pool[int]).Made, Spare, Room and waits by their contracts.
-/
import Derived.Test.YtkobbilcpgffeaaRows
import Derived.Test.YtkobbilcpgffeaaMath
import Derived.WalkKit
import Derived.BigQuiet
import Derived.Lib.MinMax
import Derived.LaidEqlPtr
namespace Go.Proofs.Ytkobbilcpgffeaa
open Go.RowKit
abbrev PoolI := Pool 47 22 3
abbrev BufI := Buf 3
variable {w : World} {r room spare made : Nat} {v : Value} {bs : List Nat}
theorem new_any (k s : Int) (rm sp : Nat) (h1 : min (max k 1) 1024 = (rm : Int)) (h2 : min (max s 0) 1024 = (sp : Int)) (w : World) : Calls Try.prog 6 #[.int .i64 k, .int .i64 s] w fun e B => e = .returned (.pointer (some ⟨w.heap.size, 0, none⟩)) ∧ PoolI B w.heap.size rm sp 0 (.slice none 0 0) [] ∧ Below w.heap.size w B := by
  have P := Lib.hid (Pool.fresh (tP := 47) (tS := 22) (tE := 3) w rm sp (by omega) (by omega) (by omega))
  go_enter Try.func6, Try.ntmps6
  go_wp2
  go_ret
  exact ⟨rfl, P.out, (Below.refl _ _).alloc (Nat.le_refl _) _⟩
theorem made_some (h : PoolI w r room spare made v bs) : Calls Try.prog 12 #[.pointer (some ⟨r, 0, none⟩)] w fun e w' => e = .returned (.int .i64 (made : Int)) ∧ w' = w := by
  have c3 := h.c3
  clear h
  go_enter Try.func12, Try.ntmps12
  go_wp2
  go_ret
  exact ⟨rfl, rfl⟩
theorem spare_some (h : PoolI w r room spare made v bs) : Calls Try.prog 13 #[.pointer (some ⟨r, 0, none⟩)] w fun e w' => e = .returned (.int .i64 (bs.length : Int)) ∧ w' = w := by
  have c0 := h.c0
  obtain ⟨a, cap, rfl, _⟩ := h.slice
  clear h
  generalize bs.length = n at *
  go_enter Try.func13, Try.ntmps13
  go_wp2
  go_ret
  exact ⟨rfl, rfl⟩
theorem room_some (h : PoolI w r room spare made v bs) : Calls Try.prog 14 #[.pointer (some ⟨r, 0, none⟩)] w fun e w' => e = .returned (.int .i64 (room : Int)) ∧ w' = w := by
  have c1 := h.c1
  clear h
  go_enter Try.func14, Try.ntmps14
  go_wp2
  go_ret
  exact ⟨rfl, rfl⟩
theorem info_el : (Try.prog.info? 3).map (fun i => (i.zero, i.size, i.bytes)) = some (some (.int .i64 0), 1, 8) := by kernel_rfl
theorem other_ptr {b g n m : Nat} (hb : BufI w b n) (hg : BufI w g m) (hne : ¬ b = g) : (binOp .eql 50 (.pointer (some ⟨b, 0, none⟩)) (.pointer (some ⟨g, 0, none⟩))).run Try.prog w = .ok (.bool false) w := by
  obtain ⟨i, hi, hz⟩ := Option.map_eq_some_iff.1 info_el
  simp only [Prod.mk.injEq] at hz
  obtain ⟨ab, hb, _⟩ := hb
  obtain ⟨ag, hg, _⟩ := hg
  exact run_eql_ptr_other w Try.underlying50 hi (by rw [hz.2.1]; decide) (fun e => hne (by injection e)) hb hg
set_option maxHeartbeats 1000000 in
theorem waits_not (h : PoolI w r room spare made v bs) (g n : Nat) (hG : BufI w g room) (hg : g ∉ bs) : Calls Try.prog 19 #[.pointer (some ⟨r, 0, none⟩), .slice (some ⟨g, 0, none⟩) room n] w fun e w' => e = .returned (.bool false) ∧ ∃ m, w' = w.drewN m := by
  have c0 := h.c0
  have h1 := h.low
  have h2 := h.lid
  have hl : bs.length ≤ 1024 := by have := h.fits; have := h.most; omega
  obtain ⟨a, cap, rfl, hc⟩ := h.slice
  have S : Hid (∀ i (hi : i < bs.length), ∃ s, a = some ⟨s, 0, none⟩ ∧ w.cell? ⟨s, i, none⟩ = some (.slice (some ⟨bs[i], 0, none⟩) room room)) := fun i hi => by
    obtain ⟨s, c, hv, _, hs⟩ := h.some_ (by omega)
    injection hv with e1 e2 e3
    exact ⟨s, e1, (hs i hi).1⟩
  have Q : Hid (∀ i (hi : i < bs.length) q, (binOp .eql 50 (.pointer (some ⟨bs[i], 0, none⟩)) (.pointer (some ⟨g, 0, none⟩))).run Try.prog (w.drewN q) = .ok (.bool false) (w.drewN q)) := fun i hi q =>
    other_ptr ((h.drewN q).bufs _ (List.getElem_mem hi)) (hG.keep (K := fun _ => True) (.drewN _ _ _) trivial) fun e => hg (e ▸ List.getElem_mem hi)
  clear h hG
  go_enter Try.func19, Try.ntmps19
  go_wp2_with fail
  go_loopw [12] (fun i wr => ∃ j m : Nat, j ≤ bs.length ∧ i = .int .i64 j ∧ wr = w.drewN m) (fun i _ => bs.length - (intOf i).toNat)
  case atStart => exact ⟨0, 0, Nat.zero_le _, rfl, rfl⟩
  case round =>
    obtain ⟨j, m, hj, rfl, rfl⟩ := hrel
    by_cases hlt : j < bs.length
    · obtain ⟨s, rfl, cs⟩ := S.out j hlt
      have hq := Q.out j hlt
      generalize bs[j] = b at *
      have i0 : 0 < room := by omega
      go_wp2_with fail
      go_quiet (fail)
      go_wp2
      go_roundw
      case rel => exact ⟨j + 1, _, by omega, by simp, rfl⟩
      case measure => simp [intOf]; omega
    · obtain rfl : j = bs.length := by omega
      go_wp2
      go_ret
      exact ⟨rfl, _, rfl⟩
end Go.Proofs.Ytkobbilcpgffeaa
