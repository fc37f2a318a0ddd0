/-
  (*Pool[int]).Give by its contract: true, and the buffer waits; false, and nothing, where so many wait, where the room is another one, and of no pool.
-/
import Derived.Test.YtkobbilcpgffeaaTake
import Derived.Test.YtkobbilcpgffeaaPush
namespace Go.Proofs.Ytkobbilcpgffeaa
open Go.RowKit
theorem info_row : (Try.prog.info? 22).map (fun i => (i.zero, i.size, i.bytes)) = some (some (.slice none 0 0), 1, 24) := by kernel_rfl
theorem give_none (a : Option Addr) (n c : Nat) (w : World) : Calls Try.prog 11 #[.pointer none, .slice a n c] w fun e B => e = .returned (.bool false) ∧ ∃ m, B = w.drewN m := by
  go_enter Try.func11, Try.ntmps11
  go_wp2_with fail
  go_quiet (fail)
  go_wp2
  go_ret
  exact ⟨rfl, _, rfl⟩
theorem give_full {w : World} {r room spare made : Nat} {v : Value} {bs : List Nat} (h : PoolI w r room spare made v bs) (hs : spare ≤ bs.length) (a : Option Addr) (n c : Nat) : Calls Try.prog 11 #[.pointer (some ⟨r, 0, none⟩), .slice a n c] w fun e B => e = .returned (.bool false) ∧ ∃ m, B = w.drewN m := by
  have c0 := h.c0
  have c2 := h.c2
  obtain ⟨b, cap, rfl, _⟩ := h.slice
  have hd : decide ((spare : Int) ≤ (bs.length : Int)) = true := by simpa using hs
  clear h
  generalize bs.length = k at *
  go_enter Try.func11, Try.ntmps11
  go_wp2_with fail
  go_quiet (fail)
  go_wp2
  go_ret
  exact ⟨rfl, _, rfl⟩
theorem give_other {w : World} {r room spare made : Nat} {v : Value} {bs : List Nat} (h : PoolI w r room spare made v bs) (hs : bs.length < spare) (a : Option Addr) (n c : Nat) (hc : ¬ c = room) : Calls Try.prog 11 #[.pointer (some ⟨r, 0, none⟩), .slice a n c] w fun e B => e = .returned (.bool false) ∧ ∃ m, B = w.drewN m := by
  have c0 := h.c0
  have c1 := h.c1
  have c2 := h.c2
  obtain ⟨b, cap, rfl, _⟩ := h.slice
  have hd : decide ((spare : Int) ≤ (bs.length : Int)) = false := by simpa using hs
  have hl : ¬ (spare : Int) ≤ (bs.length : Int) := by omega
  have hc1 : ¬ (c : Int) = (room : Int) := by omega
  have hc2 : ((c : Int) == (room : Int)) = false := by simpa using hc1
  have hc3 : ((c : Int) != (room : Int)) = true := by simpa using hc1
  clear h
  generalize bs.length = k at *
  go_enter Try.func11, Try.ntmps11
  go_wp2_with fail
  go_quiet (fail)
  go_wp2
  go_ret
  exact ⟨rfl, _, rfl⟩
theorem Pool.clean {w : World} {r room spare made : Nat} {v : Value} {bs : List Nat} (h : PoolI w r room spare made v bs) {g : Nat} (hg : ¬ foot r v bs g) (vs : List Value) : PoolI (w.setCells g 0 vs) r room spare made v bs :=
  h.keep (Keep.setCells (K := fun k => k ≠ g) g (fun h => h rfl) vs 0 w) fun _ hk e => hg (e ▸ hk)
set_option maxHeartbeats 2000000 in
theorem give_ok {w : World} {r room spare made : Nat} {v : Value} {bs : List Nat} (h : PoolI w r room spare made v bs) (hs : bs.length < spare) {g : Nat} (hG : BufI w g room) (hg : ¬ foot r v bs g) (n : Nat) :
    Calls Try.prog 11 #[.pointer (some ⟨r, 0, none⟩), .slice (some ⟨g, 0, none⟩) n room] w fun e B => e = .returned (.bool true) ∧ ∃ v', PoolI B r room spare made v' (bs ++ [g]) ∧ (∀ k, v'.ownBlock = some k → v.ownBlock = some k ∨ w.heap.size ≤ k) ∧ Keep (fun k => ¬ foot r v bs k ∧ k ≠ g) w B := by
  have c0 := h.c0
  have c1 := h.c1
  have c2 := h.c2
  have h1 := h.low
  have h2 := h.lid
  have hG' : ∀ q, BufI (w.drewN q) g room := fun q => hG.keep (K := fun _ => True) (.drewN _ _ _) trivial
  have T : Hid (∀ q, Calls Try.prog 19 #[.pointer (some ⟨r, 0, none⟩), .slice (some ⟨g, 0, none⟩) room room] (w.drewN q) fun e w' => e = .returned (.bool false) ∧ ∃ m, w' = w.drewN m) := fun q =>
    (waits_not (h.drewN q) g room (hG' q) fun hb => hg (.inr (.inr hb))).mono fun e B ⟨he, m, hm⟩ => ⟨he, q + m, by rw [hm, World.drewN_drewN]⟩
  have hcl := fun q ty => clear_run (hG' q) h1 room ty
  have A : Hid (∀ q ty, ∃ v' w', (Builtin.append_ #[29, 29] ty #[v, .slice (some ⟨w.heap.size, 0, none⟩) 1 1]).run Try.prog (((w.drewN q).setCells g 0 (List.replicate room (.int .i64 0))).alloc (.cells #[.slice (some ⟨g, 0, none⟩) room room] 22)) = .ok v' w' ∧
      ((∃ s cap, v' = .slice (some ⟨s, 0, none⟩) (bs.length + 1) cap) ∧ w'.cell? ⟨r, 0, none⟩ = some v ∧ w'.frozen? ⟨r, 0, none⟩ = false ∧
        Hid (PoolI (w'.setCell ⟨r, 0, none⟩ v') r room spare made v' (bs ++ [g]) ∧ (∀ k, v'.ownBlock = some k → v.ownBlock = some k ∨ w.heap.size ≤ k) ∧ Keep (fun k => ¬ foot r v bs k ∧ k ≠ g) w (w'.setCell ⟨r, 0, none⟩ v')))) := fun q ty => by
    have hk := Keep.setCells (K := fun k => ¬ foot r v bs k ∧ k ≠ g) g (fun h => h.2 rfl) (List.replicate room (.int .i64 0)) 0 (w.drewN q)
    have hsz : ((w.drewN q).setCells g 0 (List.replicate room (.int .i64 0))).heap.size = w.heap.size := size_sets _ _ _ _
    obtain ⟨v', w', hr, q1, q2, q3, q4⟩ := ((h.drewN q).clean hg _).push info_row Try.underlying29 (Buf.sets g (List.replicate room (.int .i64 0)) 0 _ (hG' q)) hg hs ty
    rw [hsz] at hr q4
    exact ⟨v', w', hr, q1, q2, q3, q4.out.1, q4.out.2.1, ((Keep.drewN _ _ q).trans hk).trans q4.out.2.2⟩
  have hsz : ∀ q, ((w.drewN q).setCells g 0 (List.replicate room (.int .i64 0))).heap.size = w.heap.size := fun q => size_sets _ _ _ (w.drewN q)
  have d0 : ∀ q, ((w.drewN q).setCells g 0 (List.replicate room (.int .i64 0))).cell? ⟨r, 0, none⟩ = some v := fun q => ((h.drewN q).clean hg _).c0
  obtain ⟨b, cap, rfl, _⟩ := h.slice
  have hd : decide ((spare : Int) ≤ (bs.length : Int)) = false := by simpa using hs
  have hl : ¬ (spare : Int) ≤ (bs.length : Int) := by omega
  clear h hG hG'
  generalize bs.length = k at *
  generalize hZ : List.replicate room (Value.int .i64 0) = Z at *
  go_enter Try.func11, Try.ntmps11
  go_wp2_with fail
  go_quiet (fail)
  go_wp2_with fail
  refine (T.out _).mono ?_
  rintro e w1 ⟨rfl, m1, rfl⟩
  go_wp2_with (at_builtin; refine app_step _ rfl _ _ 29 rfl _ _ rfl rfl (A.out _ _) ?_; rintro v2 w2 ⟨⟨s, c, rfl⟩, q2, q3, q4⟩)
  go_ret
  exact ⟨rfl, _, q4.out⟩
end Go.Proofs.Ytkobbilcpgffeaa
