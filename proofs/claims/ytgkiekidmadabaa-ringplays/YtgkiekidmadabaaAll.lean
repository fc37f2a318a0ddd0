/-
  (*Ring[int]).All and the function that it returns: the places and the things from the front on, as they are when one begins to ask; of no ring nothing.
-/
import Derived.Test.YtgkiekidmadabaaTake
namespace Go.Proofs.Ytgkiekidmadabaa
open Go.RowKit Go.Shelf
attribute [local go_sem] Oper.semAt_some wide_fn wide_depth
theorem all_any (p : Option Addr) (w : World) : Calls Try.prog 32 #[.pointer p] w fun e w' => e = .returned (.func (.func 40) #[] #[.pointer (some ⟨w.heap.size, 0, none⟩)]) ∧ w' = w.alloc (.cells #[.pointer p] 24) := by
  go_enter Try.func32, Try.ntmps32
  go_wp2
  go_ret
  exact ⟨rfl, rfl⟩
set_option maxRecDepth 100000 in
set_option maxHeartbeats 2000000 in
theorem all1_tells {W : World} {r s n f : Nat} {a : Option Addr} {xs : List Int} {room : Nat} (Bx : Nat) (h : RingI W r s n f a xs room) (hB : W.cell? ⟨Bx, 0, none⟩ = some (.pointer (some ⟨r, 0, none⟩))) :
    Tells Try.prog 40 #[.pointer (some ⟨Bx, 0, none⟩)] (fun i x => #[.int .i64 (i : Int), .int .i64 x]) xs (fun _ => False) (fun _ _ => True) W := by
  intro l J Jx M0 hM hJ hY hJ0
  have HC := Lib.hid (callsIn_wide (n := 0).2 (clone_some h))
  have X1 := Lib.hid hM
  have X2 := Lib.hid hJ
  have X3 := Lib.hid hY
  have X4 := Lib.hid hJ0
  clear h hM hJ hY hJ0
  refine callsIn_of_wp Try.func40 rfl trivial ?_ rfl
  simp only [Try.ntmps40, List.size_toArray, List.length_cons, List.length_nil, Nat.reduceAdd, Nat.reduceSub, Array.replicate_succ, Array.replicate_zero, List.push_toArray, List.append_toArray, List.nil_append, List.cons_append]
  gi_wp2_with fail
  refine HC.out.mono ?_
  rintro e B ⟨c, g, rfl, hR, hc, hg, hb⟩
  have HR := Lib.hid hR
  have HB := Lib.hid hb
  have Hc := Lib.hid hc
  have Hg := Lib.hid hg
  clear hR hb hc hg
  gi_wp2_with fail
  refine (callsIn_wide (n := 0).2 (each_any _ _)).mono ?_
  rintro e B1 ⟨rfl, rfl⟩
  gi_wp2_with fail
  have hb1 := HB.out.alloc HB.out.size (.cells #[.pointer (some ⟨c, 0, none⟩)] 24)
  have hcl := HR.out.lt (.inl rfl)
  refine (each1_tells B.heap.size (W0 := B.alloc (.cells #[.pointer (some ⟨c, 0, none⟩)] 24)) (HR.out.keep (Keep.alloc (fun _ => True) _ _) fun _ _ => trivial) (by rw [cell_of (heap_next rfl _)]; rfl) (fun k => foot c g xs.length k ∨ k = B.heap.size) (fun _ h => h)
    (fun k hk => by rcases hk with hk | rfl; have := HR.out.lt hk; simp; omega; simp) (Keep.refl _ _) l J Jx M0
    (fun k hk => ⟨by have := (X1.out k hk).1; have := hb1.size; omega, fun hf => by
      have h1 := (X1.out k hk).1
      rcases hf with (rfl | ⟨_, rfl⟩) | rfl
      · have := Hc.out; omega
      · have := Hg.out; omega
      · have := HB.out.size; omega⟩)
    X2.out X3.out (X2.out _ _ _ _ X4.out (Keep.of_below hb1 fun k hk => (X1.out k hk).1))).mono ?_
  rintro e B2 ⟨⟨v, rfl⟩, ho⟩
  have HO := Lib.hid ho
  clear ho
  gi_wp2
  go_end0
  refine ⟨⟨_, rfl⟩, ?_⟩
  rcases HO.out with ⟨M, h1, _⟩ | ⟨i, M, h1, h2, h3, _⟩
  · exact .inl ⟨M, h1, trivial⟩
  · exact .inr ⟨i, M, h1, h2, h3, trivial⟩
theorem all1_none {W : World} (Bx : Nat) (hB : W.cell? ⟨Bx, 0, none⟩ = some (.pointer none)) : Tells Try.prog 40 #[.pointer (some ⟨Bx, 0, none⟩)] (fun i x => #[.int .i64 (i : Int), .int .i64 x]) ([] : List Int) (fun _ => False) (fun _ _ => True) W := by
  intro l J Jx M0 hM hJ hY hJ0
  have X1 := Lib.hid hM
  have X2 := Lib.hid hJ
  have X3 := Lib.hid hY
  have X4 := Lib.hid hJ0
  clear hM hJ hY hJ0
  refine callsIn_of_wp Try.func40 rfl trivial ?_ rfl
  simp only [Try.ntmps40, List.size_toArray, List.length_cons, List.length_nil, Nat.reduceAdd, Nat.reduceSub, Array.replicate_succ, Array.replicate_zero, List.push_toArray, List.append_toArray, List.nil_append, List.cons_append]
  gi_wp2_with fail
  refine (callsIn_wide (n := 0).2 (clone_none W)).mono ?_
  rintro e B ⟨rfl, e1⟩
  obtain rfl : W = B := e1.symm
  gi_wp2_with fail
  refine (callsIn_wide (n := 0).2 (each_any _ _)).mono ?_
  rintro e B1 ⟨rfl, rfl⟩
  gi_wp2_with fail
  refine (each1_none W.heap.size (by rw [cell_of (heap_next rfl _)]; rfl) (fun _ => False) l J Jx M0 (fun k hk => ⟨by have := (X1.out k hk).1; simp; omega, id⟩) X2.out X3.out (X2.out _ _ _ _ X4.out (Keep.alloc _ _ _))).mono ?_
  rintro e B2 ⟨⟨v, rfl⟩, ho⟩
  have HO := Lib.hid ho
  clear ho
  gi_wp2
  go_end0
  refine ⟨⟨_, rfl⟩, ?_⟩
  rcases HO.out with ⟨M, h1, _⟩ | ⟨i, M, h1, h2, h3, _⟩
  · exact .inl ⟨M, h1, trivial⟩
  · exact .inr ⟨i, M, h1, h2, h3, trivial⟩
end Go.Proofs.Ytgkiekidmadabaa
