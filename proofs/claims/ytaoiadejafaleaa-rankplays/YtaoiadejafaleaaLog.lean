/-
  word.Log by its contract; an even tree of n keys is no deeper than twice the highest place of n + 1, and one.
-/
import Derived.Test.YtaoiadejafaleaaMath
import Derived.Test.YtaoiadejafaleaaRows
import Derived.Test.YtaoiadejafaleaaLen
import Derived.WalkKit
namespace Go.Proofs.Ytaoiadejafaleaa
open Go.RowKit
set_option maxHeartbeats 400000 in
theorem log_any (x : Nat) (hx : x < 18446744073709551616) (w : World) :
    Calls Try.prog 19 #[.int .u64 x] w fun e w' => e = .returned (.int .i64 ((lenN x : Int) - 1)) ∧ w = w' := by
  have hl : lenN x ≤ 64 := lenN_le x 64 hx
  go_enter Try.func19, Try.ntmps19
  go_wp2_with (go_at_call 31; refine (len64_any _ _ (by omega) (by omega)).mono ?_; rintro e w' ⟨rfl, rfl⟩; rw [Int.toNat_natCast])
  go_ret
  exact ⟨rfl, rfl⟩
/-- how deep an even tree is. -/
theorem Tr.Bal.low {t : Tr} (h : t.Bal) : (t.deep : Int) ≤ 2 * ((lenN (t.list.length + 1) : Int) - 1) + 1 := by
  have h1 := h.many
  have h0 : t.list.length + 1 ≠ 0 := by omega
  have h2 : (t.deep + 1) / 2 ≤ (t.list.length + 1).log2 := (Nat.le_log2 h0).2 h1
  unfold lenN
  rw [if_neg h0]
  omega
end Go.Proofs.Ytaoiadejafaleaa
