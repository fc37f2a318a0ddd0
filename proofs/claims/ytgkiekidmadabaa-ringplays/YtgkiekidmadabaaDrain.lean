/-
  (*Ring[int]).Drain and the function that it returns: each thing is taken, and told, as long as one asks; of no ring nothing.
-/
import Derived.Test.YtgkiekidmadabaaTake
import Derived.Sort.LoopGhostIn
namespace Go.Proofs.Ytgkiekidmadabaa
open Go.RowKit Go.Shelf
attribute [local go_sem] Oper.semAt_some wide_fn wide_depth
theorem drain_any (p : Option Addr) (w : World) : Calls Try.prog 31 #[.pointer p] w fun e w' => e = .returned (.func (.func 39) #[] #[.pointer (some ⟨w.heap.size, 0, none⟩)]) ∧ w' = w.alloc (.cells #[.pointer p] 24) := by
  go_enter Try.func31, Try.ntmps31
  go_wp2
  go_ret
  exact ⟨rfl, rfl⟩
set_option maxRecDepth 100000 in
set_option maxHeartbeats 2000000 in
theorem drain1_tells {W : World} {r s n f : Nat} {a : Option Addr} {xs : List Int} {room : Nat} (Bx : Nat) (h : RingI W r s n f a xs room) (hB : W.heap[Bx]? = some (.cells #[.pointer (some ⟨r, 0, none⟩)] 24 (0, 0))) (hBx : ¬ foot r s n Bx) :
    Tells Try.prog 39 #[.pointer (some ⟨Bx, 0, none⟩)] (fun _ x => #[.int .i64 x]) xs (fun k => foot r s n k ∨ k = Bx) (fun i B => ∃ f', RingI B r s n f' a (xs.drop i) room) W := by
  intro l J Jx M0 hM hJ hY hJ0
  have X1 := Lib.hid hM
  have X2 := Lib.hid hJ
  have X3 := Lib.hid hY
  have X4 := Lib.hid hJ0
  have X5 := Lib.hid hB
  have X6 := Lib.hid hBx
  have X7 := Lib.hid h
  clear h hM hJ hY hJ0 hB hBx
  refine callsIn_of_wp Try.func39 rfl trivial ?_ rfl
  simp only [Try.ntmps39, List.size_toArray, List.length_cons, List.length_nil, Nat.reduceAdd, Nat.reduceSub, Array.replicate_succ, Array.replicate_zero, List.push_toArray, List.append_toArray, List.nil_append, List.cons_append]
  gi_wp2
  gi_loopg [3] xs.length (fun g _ wr => ∃ (i : Nat) (M : Nat → Prop) (f' : Nat), g + i = xs.length ∧ J i M wr ∧ RingI wr r s n f' a (xs.drop i) room ∧ wr.heap[Bx]? = some (.cells #[.pointer (some ⟨r, 0, none⟩)] 24 (0, 0)) ∧ ∀ k, M k → ¬ (foot r s n k ∨ k = Bx))
  case atStart => exact ⟨0, M0, f, by omega, X4.out, X7.out, X5.out, fun k hk => (X1.out k hk).2⟩
  case round =>
    obtain ⟨i, M, f', hi, hJs, hR, hbx, hMN⟩ := hrel
    have hb : wr.cell? ⟨Bx, 0, none⟩ = some (.pointer (some ⟨r, 0, none⟩)) := by rw [cell_of hbx]; rfl
    have Y1 := Lib.hid hi
    have Y2 := Lib.hid hMN
    by_cases hlt : i < xs.length
    · rw [List.drop_eq_getElem_cons hlt] at hR
      have HT := Lib.hid (callsIn_wide (n := 0).2 (take_some hR))
      have Y3 := Lib.hid hbx
      have Y4 := Lib.hid hJs
      have Y5 : Hid (∀ k, foot r s n k → k < wr.heap.size) := fun k hk => hR.lt hk
      clear hi hMN hR hbx hJs
      gi_wp2_with fail
      refine HT.out.mono ?_
      rintro e B ⟨rfl, hR2, hk2⟩
      have hJ2 := X2.out _ _ _ _ Y4.out (hk2.mono fun k _ hk hf => Y2.out k hk (.inl hf))
      obtain ⟨fn, tmps, assign, body, hy⟩ := X3.out.at_ (i := i) (x := xs[i]) (by simp [hlt]) hJ2
      have hy1 : (Instr.yield l #[.int .i64 xs[i]]).run Try.prog B = .ok (.round l fn tmps assign body) B := (hy 0).1
      have hy2 := Lib.hid (hy 0).2
      have Y6 := Lib.hid hR2
      have Y7 := Lib.hid hk2
      have hb2 := hk2.heap Y3.out X6.out
      have Y8 := Lib.hid hb2
      clear hy hR2 hk2 hJ2 hb hb2
      generalize xs[i] = x at *
      gi_wp2_with fail
      refine hy2.out.mono ?_
      rintro e W3 ⟨b, rfl, ho⟩
      have dis : ∀ k, foot r s n k ∨ k = Bx → ¬ M k := fun k hk hm => Y2.out k hm hk
      rcases ho.out with ⟨rfl, M', hs', hk3, hJ3⟩ | ⟨rfl, M', hs', hk3, hJx3⟩
      · have R3 := Y6.out.keep hk3 (fun k hk => dis k (.inl hk))
        have B3 := hk3.heap Y8.out (dis Bx (.inr rfl))
        have Z1 := Lib.hid R3
        have Z2 := Lib.hid B3
        have Z3 := Lib.hid hs'
        have Z4 := Lib.hid hJ3
        clear ho R3 B3 hs' hJ3 hk3 hy1 dis
        gi_wp2
        have := Y1.out
        gi_roundg (gk - 1)
        case measure => omega
        case rel => exact ⟨i + 1, M', _, by omega, Z4.out, Z1.out, Z2.out, fun k hk hf => by
          rcases Z3.out k hk with h' | h'
          · exact Y2.out k h' hf
          · have h2 : k < B.heap.size := by
              rcases hf with hf | rfl
              · exact Nat.lt_of_lt_of_le (Y5.out k hf) Y7.out.size
              · exact heap_lt Y8.out
            exact absurd h2 (by change ¬ k < B.heap.size; have h3 : B.heap.size ≤ k := h'; omega)⟩
      · have R3 := Y6.out.keep hk3 (fun k hk => dis k (.inl hk))
        have Z1 := Lib.hid R3
        have Z4 := Lib.hid hJx3
        clear ho R3 hs' hJx3 hk3 hy1 dis
        gi_wp2
        refine bodyPost_ret (results_none rfl _ _ _) rfl ?_
        exact ⟨⟨_, rfl⟩, .inr ⟨i + 1, M', by omega, by omega, Z4.out, _, Z1.out⟩⟩
    · obtain rfl : i = xs.length := by omega
      have hR0 := hR
      rw [List.drop_length] at hR
      have HT := Lib.hid (callsIn_wide (n := 0).2 (take_empty hR))
      have Y3 := Lib.hid hR0
      clear hi hMN hR hbx hR0
      gi_wp2_with fail
      refine HT.out.mono ?_
      rintro e B ⟨rfl, e1⟩
      obtain rfl : wr = B := e1.symm
      gi_wp2
      refine bodyPost_ret (results_none rfl _ _ _) rfl ?_
      exact ⟨⟨_, rfl⟩, .inl ⟨M, hJs, _, Y3.out⟩⟩
theorem drain1_none {W : World} (Bx : Nat) (hB : W.cell? ⟨Bx, 0, none⟩ = some (.pointer none)) : Tells Try.prog 39 #[.pointer (some ⟨Bx, 0, none⟩)] (fun _ x => #[.int .i64 x]) ([] : List Int) (fun _ => False) (fun _ _ => True) W := by
  intro l J Jx M0 hM hJ hY hJ0
  refine callsIn_of_wp Try.func39 rfl trivial ?_ rfl
  simp only [Try.ntmps39, List.size_toArray, List.length_cons, List.length_nil, Nat.reduceAdd, Nat.reduceSub, Array.replicate_succ, Array.replicate_zero, List.push_toArray, List.append_toArray, List.nil_append, List.cons_append]
  gi_wp2
  gi_loopg [3] 0 (fun _ _ wr => wr = W)
  case atStart => rfl
  case round =>
    subst hrel
    gi_wp2_with fail
    refine (callsIn_wide (n := 0).2 (take_none wr)).mono ?_
    rintro e B ⟨rfl, e1⟩
    obtain rfl : wr = B := e1.symm
    gi_wp2
    refine bodyPost_ret (results_none rfl _ _ _) rfl ?_
    exact ⟨⟨_, rfl⟩, .inl ⟨M0, hJ0, trivial⟩⟩
end Go.Proofs.Ytgkiekidmadabaa
