/-
  (*Pool[int]).Take by its contract: a new buffer where none waits, else the last one that came; of no pool nothing.
-/
import Derived.Test.YtkobbilcpgffeaaAsk
import Derived.Lib.JoinLaws
namespace Go.Proofs.Ytkobbilcpgffeaa
open Go.RowKit
theorem zero_el (w : World) : (zeroValue 3).run Try.prog w = .ok (.int .i64 0) w := by simp [Try.zeroValue3]
theorem clear_run {w : World} {g room : Nat} (h : BufI w g room) (h0 : 1 ≤ room) (c : Nat) (ty : TypeId) : (Builtin.clear_ #[22] ty #[.slice (some ⟨g, 0, none⟩) room c]).run Try.prog w = .ok (.tuple #[]) (w.setCells g 0 (List.replicate room (.int .i64 0))) :=
  Lib.run_clear_slice w 22 3 ty (.int .i64 0) Try.underlying22 zero_el rfl rfl g 0 room c h0 (fun j hj => h.there j hj) (fun _ _ => h.warm _)
theorem take_none (w : World) : Calls Try.prog 8 #[.pointer none] w fun e w' => e = .returned (.slice none 0 0) ∧ w' = w := by
  go_enter Try.func8, Try.ntmps8
  go_wp2
  go_ret
  exact ⟨rfl, rfl⟩
theorem take_new {w : World} {r room spare made : Nat} {v : Value} (h : PoolI w r room spare made v []) (hm : made ≤ 1000000) :
    Calls Try.prog 8 #[.pointer (some ⟨r, 0, none⟩)] w fun e B => e = .returned (.slice (some ⟨w.heap.size, 0, none⟩) 0 room) ∧ PoolI B r room spare (made + 1) v [] ∧ BufI B w.heap.size room ∧ Keep (fun k => ¬ foot r v [] k) w B := by
  have c0 := h.c0
  have c1 := h.c1
  have c3 := h.c3
  have f3 := h.fr 3
  have hl := h.lid
  obtain ⟨a, cap, rfl, _⟩ := h.slice
  have P : Hid (PoolI ((w.setCell ⟨r, 3, none⟩ (.int .i64 ((made : Int) + 1))).alloc (.cells (madeCells #[.int .i64 0] room) 3)) r room spare (made + 1) (.slice a 0 cap) [] ∧ BufI ((w.setCell ⟨r, 3, none⟩ (.int .i64 ((made : Int) + 1))).alloc (.cells (madeCells #[.int .i64 0] room) 3)) w.heap.size room ∧ Keep (fun k => ¬ foot r (.slice a 0 cap) [] k) w ((w.setCell ⟨r, 3, none⟩ (.int .i64 ((made : Int) + 1))).alloc (.cells (madeCells #[.int .i64 0] room) 3))) :=
    ⟨h.made_ _ (by omega) _, ⟨_, heap_next (by simp) _, by simp [madeCells]⟩, (Keep.setCell _ _ _ fun hk => hk (.inl rfl)).trans (Keep.alloc _ _ _)⟩
  have hmk := run_make_room (P := Try.prog) 22 3 (.int .i64 0) 8 Try.underlying22 info_el rfl .i64 .i64 room (by omega) (by omega)
  have d1 : (w.setCell ⟨r, 3, none⟩ (.int .i64 ((made : Int) + 1))).cell? ⟨r, 1, none⟩ = some (.int .i64 (room : Int)) := (World.cell?_setCell_other _ _ _ _ (by simp)).trans c1
  clear h
  simp only [List.length_nil] at *
  generalize hZ : madeCells #[Value.int .i64 0] room = Z at *
  go_enter Try.func8, Try.ntmps8
  go_wp2
  go_ret
  exact ⟨by simp, P.out⟩
set_option maxHeartbeats 1000000 in
theorem take_old {w : World} {r room spare made s cap g : Nat} {bs : List Nat} (h : PoolI w r room spare made (.slice (some ⟨s, 0, none⟩) (bs.length + 1) cap) (bs ++ [g])) :
    Calls Try.prog 8 #[.pointer (some ⟨r, 0, none⟩)] w fun e B => e = .returned (.slice (some ⟨g, 0, none⟩) 0 room) ∧ PoolI B r room spare made (.slice (some ⟨s, 0, none⟩) bs.length cap) bs ∧ BufI B g room ∧ ¬ foot r (.slice (some ⟨s, 0, none⟩) bs.length cap) bs g ∧ Keep (fun k => ¬ foot r (.slice (some ⟨s, 0, none⟩) (bs.length + 1) cap) (bs ++ [g]) k) w B := by
  have c0 := h.c0
  have f0 := h.fr 0
  have hl := h.lid
  have h0 := h.low
  have hn : bs.length ≤ 1024 := by have := h.fits; have := h.most; simp at *; omega
  obtain ⟨s', cap', hv, hc, hs⟩ := h.some_ (by simp)
  simp only [Value.slice.injEq, Option.some.injEq, Addr.mk.injEq, and_true, List.length_append, List.length_cons, List.length_nil] at hv hc
  obtain ⟨rfl, _, rfl⟩ := hv
  have hsr : s ≠ r := (h.hv s rfl).1
  obtain ⟨cs, fs⟩ := hs bs.length (by simp)
  simp only [List.getElem_concat_length] at cs
  have P := Lib.hid (h.pop (.slice none 0 0) (List.replicate room (.int .i64 0)) _ rfl)
  have d0 : (w.setCell ⟨s, bs.length, none⟩ (.slice none 0 0)).cell? ⟨r, 0, none⟩ = some (.slice (some ⟨s, 0, none⟩) (bs.length + 1) cap) := (World.cell?_setCell_other _ _ _ _ (by intro e; injection e with e; exact hsr e)).trans c0
  have e0 : (w.setCell ⟨s, bs.length, none⟩ (.slice none 0 0)).frozen? ⟨r, 0, none⟩ = false := by simpa using f0
  have hcl := fun ty => clear_run (((h.bufs g (by simp)).set s bs.length (.slice none 0 0)).set r 0 (.slice (some ⟨s, 0, none⟩) bs.length cap)) h0 room ty
  clear h hs
  generalize bs.length = m at *
  go_enter Try.func8, Try.ntmps8
  go_wp2
  go_ret
  exact ⟨rfl, P.out⟩
end Go.Proofs.Ytkobbilcpgffeaa
